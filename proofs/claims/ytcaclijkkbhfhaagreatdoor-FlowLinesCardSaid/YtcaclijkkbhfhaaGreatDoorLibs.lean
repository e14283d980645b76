/-
  What layer 4 needs of Go's library: Itoa, Atoi, Cut, SplitN; the package's require and number. Conditions: the library's table, errors and bound, and the package's error, read as the program's text lays them (Tab).
-/
import Derived.Test.YtcaclijkkbhfhaaGreatDoorValid
import Derived.Test.YtcaclijkkbhfhaaGreatDoorBld
import Derived.Lib.CutLaws
import Derived.Lib.SmallJoins
import Derived.Lib.LaidTab
import Derived.Lib.AtoiAllCases
import Derived.RegionTactic
import Derived.Laws.Concat
import Derived.WalkSpells
namespace Go.Proofs.YtcaclijkkbhfhaaGreatDoor
open Go.RowKit Go.Shelf

/-- The package's error, as a value. -/
abbrev errV (a : Addr) : Value := .iface 173 (.pointer (some a))
/-- What is raised. -/
abbrev raised (a : Addr) : Ending := .panicked [{ v := errV a, recovered := false }]
/-- The variables that the package and its library read. -/
structure Tab (a : Addr) (w : World) : Prop where
  err : w.cell? ⟨0, 0, none⟩ = some (errV a)
  tab : Lib.TabIs Tryz.prog w "internal/strconv.uint64pow10" .u64 Lib.pow10Tab
  syn : ∃ te pe, w.cell? ⟨5, 0, none⟩ = some (.iface te pe)
  rng : ∃ te pe, w.cell? ⟨6, 0, none⟩ = some (.iface te pe)
  mx : ∃ m, w.cell? ⟨1, 0, none⟩ = some (.int .i64 m)
theorem tabIs_block {n : String} {g : Nat} {k : IntKind} {zs : List Int} {w w' : World} (hg : Tryz.prog.globalNamed n = some g) (h : Lib.TabIs Tryz.prog w n k zs) (hb : g < w.heap.size → w'.heap[g]? = w.heap[g]?) : Lib.TabIs Tryz.prog w' n k zs := by
  unfold Lib.TabIs World.var? at h ⊢
  rw [hg] at h ⊢
  simp only [Option.bind_some] at h ⊢
  have hlt : g < w.heap.size := by
    rcases Nat.lt_or_ge g w.heap.size with h' | h'
    · exact h'
    · rw [Array.getElem?_eq_none h'] at h; cases h
  rw [hb hlt]
  exact h
theorem gPow : Tryz.prog.globalNamed "internal/strconv.uint64pow10" = some 2 := by kernel_rfl
theorem Tab.below {a : Addr} {w w' : World} (h : Tab a w) (hb : Below w.heap.size w w') : Tab a w' :=
  ⟨cell_below hb h.err, tabIs_block gPow h.tab (hb.block _), h.syn.imp fun _ e => e.imp fun _ e => cell_below hb e, h.rng.imp fun _ e => e.imp fun _ e => cell_below hb e, h.mx.imp fun _ e => cell_below hb e⟩
/-- The world with new blocks, and with block R written. -/
theorem Tab.grown {a : Addr} {w w' : World} (h : Tab a w) {R : Nat} (hR : 7 ≤ R) (hb : w.grownBy w' (some R)) : Tab a w' := by
  have c : ∀ {g : Nat} {v : Value}, g < 7 → w.cell? ⟨g, 0, none⟩ = some v → w'.cell? ⟨g, 0, none⟩ = some v := fun hg hc => hb.cell hc (by intro e; injection e with e; simp at e; omega)
  exact ⟨c (by decide) h.err, tabIs_block gPow h.tab (fun hl => hb.block _ hl (by intro e; injection e with e; omega)), h.syn.imp fun _ e => e.imp fun _ e => c (by decide) e, h.rng.imp fun _ e => e.imp fun _ e => c (by decide) e, h.mx.imp fun _ e => c (by decide) e⟩

theorem below_grow (w : World) (k : Nat) (os : Array Obj) : Below w.heap.size w (Sort.grow (w.drewN k) os) :=
  ⟨rfl, rfl, rfl, by simp [Sort.grow], fun i hi => by simp [Sort.grow, Array.getElem?_append, hi]⟩
/-- Bytes as a string. -/
abbrev bs (l : List UInt8) : ByteArray := ⟨l.toArray⟩
theorem bs_list (l : List UInt8) : (bs l).data.toList = l := rfl
theorem bs_size (l : List UInt8) : (bs l).size = l.length := by show l.toArray.size = _; simp
theorem bs_of (s : ByteArray) : bs s.data.toList = s := by cases s; simp [bs]
theorem toList_bs (l : List UInt8) : (bs l).toList = l := by rw [Lib.toList_data]
theorem itoa_any (n : Int) (w : World) (a : Addr) (ht : Tab a w) (hn : Fits n) :
    Calls Tryz.prog 76 #[.int .i64 n] w fun e w' => e = .returned (.string (bs (Lib.itoa n))) ∧ Below w.heap.size w w' :=
  (Tryz.strconv_Itoa n hn.1 hn.2 w ht.tab).mono fun _ _ ⟨he, k, os, hw⟩ => ⟨he, hw ▸ below_grow w k os⟩
theorem atoi_yes (s : ByteArray) (v : Int) (w : World) (hs : s.size ≤ 1000000) (h : Lib.atoiAll s.data.toList = .ok v) :
    Calls Tryz.prog 121 #[.string s] w fun e w' => e = .returned (.tuple #[.int .i64 v, .nilIface]) ∧ Below w.heap.size w w' :=
  (Tryz.strconv_Atoi_ok s (by omega) v h w).mono fun _ _ ⟨he, hw⟩ => ⟨he, by
    rcases hw with rfl | ⟨t, rfl⟩
    · exact Below.refl _ _
    · exact Joins.below_bytesWorld _ _ _ _ (Nat.le_refl _)⟩
/-- Some number, and an error that is not nil. -/
def SomeErr (w : World) (e : Ending) (w' : World) : Prop := ∃ (x : Int) (N : Nat), e = .returned (.tuple #[.int .i64 x, .iface 161 (.pointer (some ⟨N, 0, none⟩))]) ∧ Below w.heap.size w w'
theorem atoi_no (s : ByteArray) (w : World) (a : Addr) (ht : Tab a w) (hs : s.size ≤ 1000000) (h : ∀ v, Lib.atoiAll s.data.toList ≠ .ok v) :
    Calls Tryz.prog 121 #[.string s] w (SomeErr w) := by
  rcases h' : Lib.atoiAll s.data.toList with v | _ | _
  · exact absurd h' (h v)
  · obtain ⟨te, pe, hv⟩ := ht.syn
    exact (Any.strconv_Atoi_syntax Tryz.laysC172 s (by omega) h' _ w hv (.inr ⟨_, _, rfl⟩)).mono fun _ _ ⟨N, he, _, _, hb⟩ => ⟨_, N, he, hb⟩
  · obtain ⟨te, pe, hv⟩ := ht.rng
    exact (Tryz.strconv_Atoi_range s (by omega) h' _ w hv (.inr ⟨_, _, rfl⟩)).mono fun _ _ ⟨N, he, _, _, hb⟩ => ⟨_, N, he, hb⟩
theorem cut_any (s sep : ByteArray) (w : World) (a : Addr) (ht : Tab a w) (hs : s.size ≤ 1000000) :
    Calls Tryz.prog 61 #[.string s, .string sep] w fun e w' => e = .returned (.tuple #[.string (bs (Lib.cut s.data.toList sep.data.toList).1), .string (bs (Lib.cut s.data.toList sep.data.toList).2.1), .bool (Lib.cut s.data.toList sep.data.toList).2.2]) ∧ Below w.heap.size w w' := by
  obtain ⟨m, hm⟩ := ht.mx
  exact (Any.strings_Cut (ρ := Tryz.laysM145_ren) { Tryz.laysM145 with } s sep m w (by omega) hm).mono fun _ _ ⟨he, n, hw⟩ => ⟨he, hw ▸ below_drewN (Below.refl _ _) n⟩
theorem splitN_any (s sep : ByteArray) (n : Nat) (w : World) (a : Addr) (ht : Tab a w) (hs : s.size ≤ 1000000) (h1 : 1 ≤ sep.size) (hn : 1 ≤ n) (hn63 : n ≤ 1000000) :
    Calls Tryz.prog 114 #[.string s, .string sep, .int .i64 n] w fun e w' =>
      e = .returned (.slice (some ⟨w.heap.size, 0, none⟩) (Lib.splitB sep 0 (min n (s.size + 1) - 1) s).length (min n (s.size + 1))) ∧ w' = w.alloc (.cells (Lib.cellsOf (Lib.splitB sep 0 (min n (s.size + 1) - 1) s) (min n (s.size + 1))) 9) := by
  obtain ⟨m, hm⟩ := ht.mx
  exact Any.strings_SplitN (ρ := Tryz.laysM147_ren) { Tryz.laysM147 with } Tryz.laysM147.i9 s sep n m w (by omega) hm h1 hn (by omega)

theorem require_yes (w : World) : Calls Tryz.prog 63 #[.bool true] w fun e w' => e = .returned (.tuple #[]) ∧ w = w' := by
  go_enter Tryz.func63, Tryz.ntmps63
  go_wp2
  go_end0
  exact ⟨rfl, rfl⟩
theorem require_no (w : World) (a : Addr) (ht : Tab a w) : Calls Tryz.prog 63 #[.bool false] w fun e w' => e = raised a ∧ w = w' := by
  have hc := ht.err
  clear ht
  go_enter Tryz.func63, Tryz.ntmps63
  go_wp2
  exact ⟨rfl, rfl, rfl⟩

set_option maxRecDepth 100000 in
theorem number_yes (s : ByteArray) (v : Int) (w : World) (a : Addr) (ht : Tab a w) (hs : s.size ≤ 1000000) (h : Fl.number s.data.toList = some v) :
    Calls Tryz.prog 113 #[.string s] w fun e w' => e = .returned (.int .i64 v) ∧ Below w.heap.size w w' := by
  unfold Fl.number at h
  split at h
  · rename_i v' hv
    split at h
    · rename_i hc
      injection h with h; subst h
      obtain ⟨c1, c2⟩ := hc
      have hf : Fits v' := ⟨by omega, (Lib.atoiAll_bounds hv).2⟩
      have A := Lib.hid (fun w => atoi_yes s v' w hs hv)
      have I := Lib.hid (fun w ht => itoa_any v' w a ht hf)
      have HT := Lib.hid ht
      have e1 : (Lib.itoa v' == s.toList) = true := by rw [c2, Lib.toList_data]; simp
      clear hv hf ht c2 hs
      go_enter Tryz.func113, Tryz.ntmps113
      go_wp2_with fail
      refine (A.out _).mono ?_; rintro e w1 ⟨rfl, g1⟩
      have L1 := Lib.hid g1; clear g1
      go_wp2_with fail
      refine (I.out _ (HT.out.below L1.out)).mono ?_; rintro e w2 ⟨rfl, g2⟩
      have L2 := Lib.hid (below_step L1.out g2); clear g2
      go_wp2_with fail
      refine (require_yes _).mono ?_; rintro e w3 ⟨rfl, rfl⟩
      go_wp2_with fail
      go_ret
      exact ⟨rfl, L2.out⟩
    · cases h
  · cases h

set_option maxRecDepth 100000 in
theorem number_no (s : ByteArray) (w : World) (a : Addr) (ht : Tab a w) (hs : s.size ≤ 1000000) (h : Fl.number s.data.toList = none) :
    Calls Tryz.prog 113 #[.string s] w fun e w' => e = raised a ∧ Below w.heap.size w w' := by
  have HT := Lib.hid ht
  have HR := Lib.hid (fun w ht => require_no w a ht)
  by_cases hv : ∃ v, Lib.atoiAll s.data.toList = .ok v
  · obtain ⟨v, hv⟩ := hv
    have hf : Fits v := Lib.atoiAll_bounds hv
    have A := Lib.hid (fun w => atoi_yes s v w hs hv)
    have I := Lib.hid (fun w ht => itoa_any v w a ht hf)
    unfold Fl.number at h
    rw [hv] at h
    simp only at h
    split at h
    · cases h
    · rename_i hc
      clear h hv hf ht hs
      by_cases h0 : 0 ≤ v
      · have e1 : (Lib.itoa v == s.toList) = false := by
          rw [Lib.toList_data, beq_eq_false_iff_ne]; exact fun e => hc ⟨h0, e⟩
        clear hc
        go_enter Tryz.func113, Tryz.ntmps113
        go_wp2_with fail
        refine (A.out _).mono ?_; rintro e w1 ⟨rfl, g1⟩
        have L1 := Lib.hid g1; clear g1
        go_wp2_with fail
        refine (I.out _ (HT.out.below L1.out)).mono ?_; rintro e w2 ⟨rfl, g2⟩
        have L2 := Lib.hid (below_step L1.out g2); clear g2
        go_wp2_with fail
        refine (HR.out _ (HT.out.below L2.out)).mono ?_; rintro e w3 ⟨rfl, rfl⟩
        go_wp2_with fail
        exact ⟨rfl, rfl, L2.out⟩
      · clear hc
        go_enter Tryz.func113, Tryz.ntmps113
        go_wp2_with fail
        refine (A.out _).mono ?_; rintro e w1 ⟨rfl, g1⟩
        have L1 := Lib.hid g1; clear g1
        go_wp2_with fail
        refine (HR.out _ (HT.out.below L1.out)).mono ?_; rintro e w3 ⟨rfl, rfl⟩
        go_wp2_with fail
        exact ⟨rfl, rfl, L1.out⟩
  · have A := Lib.hid (fun w ht => atoi_no s w a ht hs (fun v hh => hv ⟨v, hh⟩))
    clear hv ht h hs
    go_enter Tryz.func113, Tryz.ntmps113
    go_wp2_with fail
    refine (A.out _ HT.out).mono ?_; rintro e w1 ⟨x, N, rfl, g1⟩
    have L1 := Lib.hid g1; clear g1
    go_wp2_with fail
    refine (HR.out _ (HT.out.below L1.out)).mono ?_; rintro e w3 ⟨rfl, rfl⟩
    go_wp2_with fail
    exact ⟨rfl, rfl, L1.out⟩
end Go.Proofs.YtcaclijkkbhfhaaGreatDoor
