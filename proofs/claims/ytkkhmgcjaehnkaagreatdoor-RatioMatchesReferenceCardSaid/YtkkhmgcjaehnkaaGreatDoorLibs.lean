/-
  What the texts need of Go's library: Itoa, Atoi (returned or not), Cut at one byte; the package's number and text; Print. Conditions: the library's table and errors read as the program's text lays them (Tab).
-/
import Derived.Test.YtkkhmgcjaehnkaaGreatDoorClamp
import Derived.Test.YtkkhmgcjaehnkaaGreatDoorText
import Derived.Test.YtkkhmgcjaehnkaaGreatDoorShelf
import Derived.Lib.CutLaws
import Derived.Lib.SmallJoins
import Derived.RegionTactic
import Derived.Laws.Concat
import Derived.Deep.RegionHeld3
namespace Go.Proofs.YtkkhmgcjaehnkaaGreatDoor
open Go.RowKit Go.Shelf

/-- The variables that the package and its library read. -/
structure Tab (a : Addr) (w : World) : Prop where
  err : NoneAt a w
  tab : Lib.TabIs Tryz.prog w "internal/strconv.uint64pow10" .u64 Lib.pow10Tab
  syn : ∃ te pe, w.cell? ⟨2, 0, none⟩ = some (.iface te pe)
  rng : ∃ te pe, w.cell? ⟨3, 0, none⟩ = some (.iface te pe)
theorem cell_below {w w' : World} (hb : Below w.heap.size w w') {a : Addr} {v : Value} (hc : w.cell? a = some v) : w'.cell? a = some v := (hb.cell (World.block_lt_of_cell? w a hc)).trans hc
theorem tabIs_below {n : String} {g : Nat} {k : IntKind} {zs : List Int} {w w' : World} (hg : Tryz.prog.globalNamed n = some g) (h : Lib.TabIs Tryz.prog w n k zs) (hb : Below w.heap.size w w') : Lib.TabIs Tryz.prog w' n k zs := by
  unfold Lib.TabIs World.var? at h ⊢
  rw [hg] at h ⊢
  simp only [Option.bind_some] at h ⊢
  have hlt : g < w.heap.size := by
    rcases Nat.lt_or_ge g w.heap.size with h' | h'
    · exact h'
    · rw [Array.getElem?_eq_none h'] at h; cases h
  rw [hb.block g hlt]
  exact h
theorem gPow : Tryz.prog.globalNamed "internal/strconv.uint64pow10" = some 4 := by kernel_rfl
theorem Tab.below {a : Addr} {w w' : World} (h : Tab a w) (hb : Below w.heap.size w w') : Tab a w' :=
  ⟨h.err.below hb, tabIs_below gPow h.tab hb, h.syn.imp fun _ e => e.imp fun _ e => cell_below hb e, h.rng.imp fun _ e => e.imp fun _ e => cell_below hb e⟩

theorem below_grow (w : World) (k : Nat) (os : Array Obj) : Below w.heap.size w (Sort.grow (w.drewN k) os) :=
  ⟨rfl, rfl, rfl, by simp [Sort.grow], fun i hi => by simp [Sort.grow, Array.getElem?_append, hi]⟩
/-- A numeral, as bytes. -/
def itoaB (n : Int) : ByteArray := ⟨(Lib.itoa n).toArray⟩
theorem itoaB_size (n : Int) : (itoaB n).size = (Lib.itoa n).length := by show (Lib.itoa n).toArray.size = _; simp
theorem itoa_any (n : Int) (w : World) (a : Addr) (ht : Tab a w) (hn : Fits n) :
    Calls Tryz.prog 52 #[.int .i64 n] w fun e w' => e = .returned (.string (itoaB n)) ∧ Below w.heap.size w w' :=
  (Tryz.strconv_Itoa n hn.1 hn.2 w ht.tab).mono fun _ _ ⟨he, k, os, hw⟩ => ⟨he, hw ▸ below_grow w k os⟩
theorem atoi_yes (s : ByteArray) (v : Int) (w : World) (hs : s.size ≤ 1000) (h : Lib.atoiAll s.data.toList = .ok v) :
    Calls Tryz.prog 54 #[.string s] w fun e w' => e = .returned (.tuple #[.int .i64 v, .nilIface]) ∧ Below w.heap.size w w' :=
  (Tryz.strconv_Atoi_ok s (by omega) v h w).mono fun _ _ ⟨he, hw⟩ => ⟨he, by
    rcases hw with rfl | ⟨t, rfl⟩
    · exact Below.refl _ _
    · exact Joins.below_bytesWorld _ _ _ _ (Nat.le_refl _)⟩
/-- Some number, and an error that is not nil. -/
def SomeErr (w : World) (e : Ending) (w' : World) : Prop := ∃ (x : Int) (N : Nat), e = .returned (.tuple #[.int .i64 x, .iface 87 (.pointer (some ⟨N, 0, none⟩))]) ∧ Below w.heap.size w w'
theorem atoi_no (s : ByteArray) (w : World) (a : Addr) (ht : Tab a w) (hs : s.size ≤ 1000) (h : ∀ v, Lib.atoiAll s.data.toList ≠ .ok v) :
    Calls Tryz.prog 54 #[.string s] w (SomeErr w) := by
  rcases h' : Lib.atoiAll s.data.toList with v | _ | _
  · exact absurd h' (h v)
  · obtain ⟨te, pe, hv⟩ := ht.syn
    exact (Any.strconv_Atoi_syntax Tryz.laysC172 s (by omega) h' _ w hv (.inr ⟨_, _, rfl⟩)).mono fun _ _ ⟨N, he, _, _, hb⟩ => ⟨_, N, he, hb⟩
  · obtain ⟨te, pe, hv⟩ := ht.rng
    exact (Tryz.strconv_Atoi_range s (by omega) h' _ w hv (.inr ⟨_, _, rfl⟩)).mono fun _ _ ⟨N, he, _, _, hb⟩ => ⟨_, N, he, hb⟩

theorem number_yes (s : ByteArray) (v : Int) (w : World) (hs : s.size ≤ 1000) (h : Lib.atoiAll s.data.toList = .ok v) :
    Calls Tryz.prog 48 #[.string s] w fun e w' => e = .returned (.int .i64 v) ∧ Below w.heap.size w w' := by
  have ha := fun w => atoi_yes s v w hs h
  have HA := Lib.hid ha; clear ha h
  go_enter Tryz.func48, Tryz.ntmps48
  go_wp2_with fail
  refine (HA.out _).mono ?_; rintro e w1 ⟨rfl, g1⟩
  go_wp2_with fail
  go_ret
  exact ⟨rfl, g1⟩
theorem number_no (s : ByteArray) (w : World) (a : Addr) (ht : Tab a w) (hs : s.size ≤ 1000) (h : ∀ v, Lib.atoiAll s.data.toList ≠ .ok v) :
    Calls Tryz.prog 48 #[.string s] w fun e w' => e = raised a ∧ Below w.heap.size w w' := by
  have ha := fun w ht => atoi_no s w a ht hs h
  have HA := Lib.hid ha; clear ha h
  have HT := Lib.hid ht; clear ht
  go_enter Tryz.func48, Tryz.ntmps48
  go_wp2_with fail
  refine (HA.out _ HT.out).mono ?_; rintro e w1 ⟨x, N, rfl, g1⟩
  have hc := (HT.out.err.below g1).2
  go_wp2_with fail
  exact ⟨rfl, rfl, g1⟩

/-- The text of a fraction, as bytes. -/
def txtB (n d : Int) : ByteArray := ⟨(Ra.txt n d).toArray⟩
theorem text_any (n d : Int) (w : World) (a : Addr) (ht : Tab a w) (ho : Ra.Ok n d) :
    Calls Tryz.prog 45 #[ratV n d] w fun e w' => e = .returned (.string (txtB n d)) ∧ Below w.heap.size w w' := by
  obtain ⟨o1, o2, o3, o4, -⟩ := ho
  have i1 := fun w ht => itoa_any n w a ht ⟨by omega, by omega⟩
  have i2 := fun x w (ht : Tab a w) (hx : Fits x) => itoa_any x w a ht hx
  have HT := Lib.hid ht; clear ht
  have I1 := Lib.hid i1; have I2 := Lib.hid i2
  have f1 : Fits n := ⟨by omega, by omega⟩
  have f2 : Fits d := ⟨by omega, by omega⟩
  have F1 := Lib.hid f1; have F2 := Lib.hid f2
  clear i1 i2 f1 f2
  have B0 := Lib.hid (BoxAt.new w n d)
  by_cases hd : d = 1
  · have hv : txtB n d = itoaB n := by unfold txtB Ra.txt itoaB; rw [if_pos hd]
    have hd' : ((d : Int) == 1) = true := by rw [beq_iff_eq]; exact hd
    have HV := Lib.hid hv; clear hv hd
    go_enter Tryz.func45, Tryz.ntmps45
    go_wp2_with fail
    refine (I1.out _ (HT.out.below (below_new _ _))).mono ?_; rintro e w1 ⟨rfl, g1⟩
    have l1 := below_step (below_new w _) g1
    go_wp2_with fail
    go_ret
    exact ⟨by rw [HV.out]; rfl, l1⟩
  · have hv : txtB n d = itoaB n ++ ⟨#[47]⟩ ++ itoaB d := by
      unfold txtB Ra.txt itoaB; rw [if_neg hd]; apply ByteArray.ext; simp
    have hd' : ((d : Int) == 1) = false := by rw [beq_eq_false_iff_ne]; exact hd
    have HV := Lib.hid hv; clear hv hd
    have s1 : (itoaB n).size ≤ 11 := by rw [itoaB_size]; exact Ra.itoa_len o3 o4
    have s2 : (itoaB d).size ≤ 11 := by rw [itoaB_size]; exact Ra.itoa_len (by omega) (by omega)
    have s3 : (itoaB n ++ ⟨#[47]⟩).size = (itoaB n).size + 1 := by rw [ByteArray.size_append]; rfl
    have e5 : ∀ W, (Op.stringOp .add (itoaB n) ⟨#[47]⟩).run Tryz.prog W = .ok (.string (itoaB n ++ ⟨#[47]⟩)) W := fun W => run_string_add_sum _ _ _ (by show (itoaB n).size + 1 ≤ _; omega)
    have e6 : ∀ W, (Op.stringOp .add (itoaB n ++ ⟨#[47]⟩) (itoaB d)).run Tryz.prog W = .ok (.string (itoaB n ++ ⟨#[47]⟩ ++ itoaB d)) W := fun W => run_string_add_sum _ _ _ (by omega)
    generalize itoaB n ++ ⟨#[47]⟩ = S1 at *
    clear s1 s2 s3
    go_enter Tryz.func45, Tryz.ntmps45
    go_wp2_with fail
    have x0 := B0.out.2.1; have x1 := B0.out.2.2
    have HS : Hid (∀ w1 w2, (w1.cell? ⟨w.heap.size, 0, none⟩ = some (.int .i64 n) ∧ w1.cell? ⟨w.heap.size, 1, none⟩ = some (.int .i64 d) ∧ Below w.heap.size w w1) → Below w1.heap.size w1 w2 →
        (w2.cell? ⟨w.heap.size, 0, none⟩ = some (.int .i64 n) ∧ w2.cell? ⟨w.heap.size, 1, none⟩ = some (.int .i64 d) ∧ Below w.heap.size w w2)) :=
      Lib.hid fun w1 w2 ⟨h1, h2, h3⟩ hb => ⟨cell_below hb h1, cell_below hb h2, below_step h3 hb⟩
    have HU : Hid (∀ w1, (w1.cell? ⟨w.heap.size, 0, none⟩ = some (.int .i64 n) ∧ w1.cell? ⟨w.heap.size, 1, none⟩ = some (.int .i64 d) ∧ Below w.heap.size w w1) → Tab a w1) := Lib.hid fun w1 ⟨_, _, h3⟩ => HT.out.below h3
    have h0 : (w.alloc (.cells #[.int .i64 n, .int .i64 d] 25)).cell? ⟨w.heap.size, 0, none⟩ = some (.int .i64 n) ∧ (w.alloc (.cells #[.int .i64 n, .int .i64 d] 25)).cell? ⟨w.heap.size, 1, none⟩ = some (.int .i64 d) ∧ Below w.heap.size w (w.alloc (.cells #[.int .i64 n, .int .i64 d] 25)) := ⟨x0, x1, below_new _ _⟩
    have H0 := Lib.hid h0; clear h0
    generalize w.alloc (.cells #[.int .i64 n, .int .i64 d] 25) = W at *
    go_region_held3 (fun w' => w'.cell? ⟨w.heap.size, 0, none⟩ = some (.int .i64 n) ∧ w'.cell? ⟨w.heap.size, 1, none⟩ = some (.int .i64 d) ∧ Below w.heap.size w w') (first | exact HS.out _ _ H0.out (Below.refl _ _).drew | exact HS.out _ _ (by assumption) hb4)
      ((go_at_call 52; ((with_reducible refine (I2.out _ _ ?_ ?_).mono ?_); (exact HU.out _ (by assumption)); (first | exact F1.out | exact F2.out); rintro e w4 ⟨rfl, hb4⟩)))
    all_goals
      rename_i hh
      have HB := Lib.hid hh.2.2
      clear hh x0 x1 e5 e6
      go_wp2_with fail
      go_ret
      exact ⟨by rw [HV.out]; rfl, HB.out⟩

theorem Print_yes (n d : Int) (w : World) (a : Addr) (ht : Tab a w) (ho : Ra.Ok n d) :
    Calls Tryz.prog 26 #[ratV n d] w fun e w' => e = .returned (.tuple #[.string (txtB n d), .int .i64 0]) ∧ Below w.heap.size w w' := by
  have v1 := fun w => valid_any n d w (by have := ho.2.2.1; omega) (by have := ho.2.2.2.1; omega) (by have := ho.1; omega) (by have := ho.2.1; omega)
  rw [okB_true ho] at v1
  have t1 := fun w ht => text_any n d w a ht ho
  have V1 := Lib.hid v1; have T1 := Lib.hid t1; have HT := Lib.hid ht
  have B0 := Lib.hid (BoxAt.new w n d)
  clear v1 t1 ht ho
  have x0 := B0.out.2.1; have x1 := B0.out.2.2
  go_enter Tryz.func26, Tryz.ntmps26
  go_wp2_with fail
  clear x0 x1
  refine (V1.out _).mono ?_; rintro e w1 ⟨rfl, g1⟩
  have l1 := below_step (below_new w _) g1
  have x0 := (B0.out.below g1).2.1; have x1 := (B0.out.below g1).2.2
  go_wp2_with fail
  refine (T1.out _ (HT.out.below l1)).mono ?_; rintro e w2 ⟨rfl, g2⟩
  have l2 := below_step l1 g2
  clear x0 x1
  go_wp2_with fail
  go_ret2
  exact ⟨rfl, l2⟩
theorem Print_no (n d : Int) (w : World) (fa : Fits n ∧ Fits d) (ho : ¬ Ra.Ok n d) :
    Calls Tryz.prog 26 #[ratV n d] w fun e w' => e = .returned (.tuple #[.string ⟨#[]⟩, .int .i64 30]) ∧ Below w.heap.size w w' := by
  have v1 := fun w => valid_any n d w fa.1.1 fa.1.2 fa.2.1 fa.2.2
  rw [okB_false ho] at v1
  have V1 := Lib.hid v1
  clear v1 ho fa
  go_enter Tryz.func26, Tryz.ntmps26
  go_wp2_with fail
  refine (V1.out _).mono ?_; rintro e w1 ⟨rfl, g1⟩
  have l1 := below_step (below_new w _) g1
  go_wp2_with fail
  go_ret2
  exact ⟨rfl, l1⟩
end Go.Proofs.YtkkhmgcjaehnkaaGreatDoor
