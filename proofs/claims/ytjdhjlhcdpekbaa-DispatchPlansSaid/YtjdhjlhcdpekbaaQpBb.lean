/-
  A row of windows in memory; contracts of validWindow and validWindows (written by tools/l04_vwin.py).
  Contracts of validStages, Valid, possibleDurations, possibleMoves, failureOf, isPossible, Possible.
-/
import Derived.Test.YtjdhjlhcdpekbaaQpBa
import Derived.Deep.RegionHeld3
import Derived.IntWalk
import Derived.WalkSpells
namespace Go.Proofs.Ytjdhjlhcdpekbaa.Pe
open Go.RowKit

/-- The cells of a window at a place. -/
structure WinAt (w : World) (b o : Nat) (v : Pl.Win) : Prop where
  c0 : w.cell? ⟨b, o, none⟩ = some (.int .i64 v.f)
  c1 : w.cell? ⟨b, o + 1, none⟩ = some (.int .i64 v.t)
  c2 : w.cell? ⟨b, o + 2, none⟩ = some (.int .i64 v.lim)
theorem WinAt.below {w w' : World} {b o : Nat} {v : Pl.Win} (h : WinAt w b o v) (hb : Below w.heap.size w w') : WinAt w' b o v :=
  ⟨cell_below hb h.c0, cell_below hb h.c1, cell_below hb h.c2⟩
/-- A slice of windows that reads as L. -/
def WinsA (w : World) (a : Option Addr) (c : Nat) (L : List Pl.Win) : Prop :=
  L.length ≤ c ∧ c ≤ maxLen ∧ ∀ i (h : i < L.length), ∃ b off : Nat, a = some ⟨b, off, none⟩ ∧ b < w.heap.size ∧ WinAt w b (off + i * 3) L[i]
theorem WinsA.below {w w' : World} {a : Option Addr} {c : Nat} {L : List Pl.Win} (h : WinsA w a c L) (hb : Below w.heap.size w w') : WinsA w' a c L := by
  refine ⟨h.1, h.2.1, fun i hi => ?_⟩
  obtain ⟨b, off, rfl, h1, h2⟩ := h.2.2 i hi
  exact ⟨b, off, rfl, Nat.lt_of_lt_of_le h1 hb.size, h2.below hb⟩
theorem WinsA.nil (w : World) : WinsA w none 0 [] := ⟨Nat.le_refl _, by decide, fun i hi => by cases hi⟩
/-- The window before place k, if there is one. -/
def prevW (L : List Pl.Win) (k : Nat) : Option Pl.Win := if k = 0 then none else L[k - 1]?
theorem okWins_drop (n : Nat) (L : List Pl.Win) (k : Nat) (h : k < L.length) : Pl.okWinsFrom n (prevW L k) (L.drop k) = (Pl.okWin n L[k] && (match prevW L k with | none => true | some v => Pl.before v L[k]) && Pl.okWinsFrom n (prevW L (k + 1)) (L.drop (k + 1))) := by
  have e : prevW L (k + 1) = some L[k] := by unfold prevW; rw [if_neg (by omega)]; simp [h]
  rw [e, List.drop_eq_getElem_cons h]
  cases prevW L k with
  | none => simp [Pl.okWinsFrom]
  | some v => simp [Pl.okWinsFrom]

set_option maxRecDepth 100000 in
set_option maxHeartbeats 2000000 in
theorem validWindows_at (L : List Pl.Win) (n : Nat) (a : Option Addr) (c : Nat) (w : World) (h : WinsA w a c L) :
    Calls Try.prog 80 #[.slice a L.length c, .int .i64 (n : Int)] w fun e w' => e = .returned (.bool (Pl.okWins L n)) ∧ Below w.heap.size w w' := by
  have hlen : L.length ≤ maxLen := Nat.le_trans h.1 h.2.1
  unfold maxLen at hlen
  have HA := Lib.hid h; clear h
  by_cases h20 : L.length ≤ 20
  · have hE : Pl.okWins L n = Pl.okWinsFrom n none L := by unfold Pl.okWins; simp [h20]
    have HE := Lib.hid hE; clear hE
    go_enter Try.func80, Try.ntmps80
    go_wp2_with fail
    go_loopw [12] (fun i wr => ∃ k : Nat, k ≤ L.length ∧ i = .int .i64 (k : Int) ∧ Below w.heap.size w wr ∧ Hid (Pl.okWinsFrom n (prevW L k) (L.drop k) = Pl.okWinsFrom n none L)) (fun i _ => L.length - (intOf i).toNat)
    case atStart => exact ⟨0, Nat.zero_le _, rfl, Below.refl _ _, Lib.hid rfl⟩
    case round =>
      obtain ⟨k, hk, rfl, hb, hh⟩ := hrel
      by_cases hlt : k < L.length
      · obtain ⟨b, off, rfl, hbb, h1⟩ := (HA.out.below hb).2.2 k hlt
        have HE1 := Lib.hid (okWins_drop n L k hlt)
        have hp : ∀ k' : Nat, k = k' + 1 → ∃ u, prevW L k = some u ∧ WinAt wr b (off + k' * 3) u := by
          rintro k' rfl
          obtain ⟨b', off', e, _, h2⟩ := (HA.out.below hb).2.2 k' (by omega)
          injection e with e; injection e with e3 e4; subst e3; subst e4
          exact ⟨L[k'], by unfold prevW; rw [if_neg (by omega)]; simp, h2⟩
        have HP := Lib.hid hp; clear hp
        generalize L[k] = v at *
        obtain ⟨B, eB⟩ : ∃ B, Pl.okWin n v = B := ⟨_, rfl⟩
        have hv := fun w => validWindow_any v n w
        rw [eB] at hv HE1
        have HV := Lib.hid hv
        have HB := Lib.hid hb
        obtain ⟨c0, c1, c2⟩ := h1
        clear hv eB hb
        go_wp2_with fail
        obtain ⟨W, hW⟩ : ∃ W, W = wr.alloc (.cells #[.int .i64 v.f, .int .i64 v.t, .int .i64 v.lim] 110) := ⟨_, rfl⟩
        rw [← hW]
        have S0 : Hid (WinAt W wr.heap.size 0 v ∧ Below wr.heap.size wr W) := Lib.hid (by rw [hW]; exact ⟨⟨by simp [go_sem], by simp [go_sem], by simp [go_sem]⟩, below_new _ _⟩)
        have HST : Hid (∀ v1 v2, (WinAt v1 wr.heap.size 0 v ∧ Below wr.heap.size wr v1) → Below v1.heap.size v1 v2 → (WinAt v2 wr.heap.size 0 v ∧ Below wr.heap.size wr v2)) := Lib.hid fun v1 v2 ⟨h1, h3⟩ hb => ⟨h1.below hb, below_step h3 hb⟩
        clear hW
        cases B
        · refine wp_region_held_drew (S := (fun v1 => WinAt v1 wr.heap.size 0 v ∧ Below wr.heap.size wr v1)) (by kernel_rfl) (HST.out _ _ S0.out (Below.refl _ _).drew) (fun hHeld => ?_)
          refine wpAnyH_take (i := 0) (oi := { dst := some 17, op := Op.load 110 (Operand.tmp 6), type := 110, pos := "valid.go:39", after := #[], guard := none }) (v := ?va0) rfl (by kernel_rfl) (by kernel_rfl) (by kernel_rfl) (fun _ _ _ h => h) (Or.inl ⟨by rfl, ?ya0⟩) (by assumption) ?ta0
          case ya0 => (intro w hSw; obtain ⟨⟨d0, d1, d2⟩, d3⟩ := hSw); go_simp; try with_reducible rfl
          simp only [Act.put, List.setIfInBounds_toArray, List.set_cons_zero, List.set_cons_succ]
          refine wpAnyH_take (i := 1) (oi := { dst := some 18, op := Op.move (Operand.tmp 1), type := 3, pos := "valid.go:39", after := #[], guard := none }) (v := ?va1) rfl (by kernel_rfl) (by kernel_rfl) (by kernel_rfl) (fun _ _ _ h => h) (Or.inl ⟨by rfl, ?ya1⟩) (by assumption) ?ta1
          case ya1 => (intro w hSw; try dsimp only at hSw); go_simp; try with_reducible rfl
          simp only [Act.put, List.setIfInBounds_toArray, List.set_cons_zero, List.set_cons_succ]
          refine wpAnyH_ready (rs := [2]) (by kernel_rfl) (by simp) ?_
          refine AllReadyH.cons (o := { dst := some 19, op := Op.call { callee := Callee.value (Operand.func 99), args := #[Operand.tmp 17, Operand.tmp 18], argTypes := #[110, 3] }, type := 4, pos := "valid.go:39", after := #[{ on := 0, ground := Ground.data }, { on := 1, ground := Ground.data }], guard := none }) rfl (fun K hK => ?_) AllReadyH.nil
          go_simp
          refine (HV.out _).mono ?_; rintro e w4 ⟨rfl, hb4⟩
          refine hK.out _ _ (HST.out _ _ (by assumption) hb4) (fun hHeld' => ?_)
          clear hK K hHeld
          have hHeld := hHeld'; clear hHeld'
          try simp only [Act.put, List.setIfInBounds_toArray, List.set_cons_zero, List.set_cons_succ]
          refine wpAnyH_take (i := 3) (oi := { dst := some 20, op := Op.unOp UnOp.not 4 (Operand.tmp 19), type := 4, pos := "valid.go:39", after := #[{ on := 2, ground := Ground.data }], guard := none }) (v := ?va3) rfl (by kernel_rfl) (by kernel_rfl) (by kernel_rfl) (fun _ _ _ h => h) (Or.inl ⟨by rfl, ?ya3⟩) (by assumption) ?ta3
          case ya3 => (intro w hSw; try dsimp only at hSw); go_simp; try with_reducible rfl
          simp only [Act.put, List.setIfInBounds_toArray, List.set_cons_zero, List.set_cons_succ]
          refine wpAnyH_take (i := 4) (oi := { dst := some 21, op := Op.move (Operand.tmp 20), type := 4, pos := "valid.go:39", after := #[{ on := 3, ground := Ground.data }, { on := 2, ground := Ground.chain }], guard := none }) (v := ?va4) rfl (by kernel_rfl) (by kernel_rfl) (by kernel_rfl) (fun _ _ _ h => h) (Or.inl ⟨by rfl, ?ya4⟩) (by assumption) ?ta4
          case ya4 => (intro w hSw; try dsimp only at hSw); go_simp; try with_reducible rfl
          simp only [Act.put, List.setIfInBounds_toArray, List.set_cons_zero, List.set_cons_succ]
          refine wpAnyH_take (i := 5) (oi := { dst := some 22, op := Op.move (Operand.tmp 5), type := 3, pos := "valid.go:39", after := #[{ on := 4, ground := Ground.guard }], guard := some (4, false) }) (v := undef) rfl (by kernel_rfl) (by kernel_rfl) (by kernel_rfl) (fun _ _ _ h => h) (Or.inr ⟨by rfl, rfl⟩) (by assumption) ?_
          simp only [Act.put, List.setIfInBounds_toArray, List.set_cons_zero, List.set_cons_succ]
          refine wpAnyH_take (i := 6) (oi := { dst := some 23, op := Op.binOp BinOp.gtr 3 (Operand.tmp 22) (Operand.const (Value.int IntKind.i64 0)) 3, type := 4, pos := "valid.go:39", after := #[{ on := 5, ground := Ground.data }, { on := 4, ground := Ground.guard }], guard := some (4, false) }) (v := undef) rfl (by kernel_rfl) (by kernel_rfl) (by kernel_rfl) (fun _ _ _ h => h) (Or.inr ⟨by rfl, rfl⟩) (by assumption) ?_
          simp only [Act.put, List.setIfInBounds_toArray, List.set_cons_zero, List.set_cons_succ]
          refine wpAnyH_take (i := 7) (oi := { dst := some 24, op := Op.move (Operand.tmp 23), type := 4, pos := "valid.go:39", after := #[{ on := 6, ground := Ground.data }, { on := 4, ground := Ground.chain }, { on := 4, ground := Ground.guard }], guard := some (4, false) }) (v := undef) rfl (by kernel_rfl) (by kernel_rfl) (by kernel_rfl) (fun _ _ _ h => h) (Or.inr ⟨by rfl, rfl⟩) (by assumption) ?_
          simp only [Act.put, List.setIfInBounds_toArray, List.set_cons_zero, List.set_cons_succ]
          refine wpAnyH_take (i := 8) (oi := { dst := some 25, op := Op.move (Operand.tmp 0), type := 62, pos := "valid.go:39", after := #[{ on := 7, ground := Ground.guard }], guard := some (7, true) }) (v := undef) rfl (by kernel_rfl) (by kernel_rfl) (by kernel_rfl) (fun _ _ _ h => h) (Or.inr ⟨by rfl, rfl⟩) (by assumption) ?_
          simp only [Act.put, List.setIfInBounds_toArray, List.set_cons_zero, List.set_cons_succ]
          refine wpAnyH_take (i := 9) (oi := { dst := some 26, op := Op.move (Operand.tmp 5), type := 3, pos := "valid.go:39", after := #[{ on := 7, ground := Ground.guard }], guard := some (7, true) }) (v := undef) rfl (by kernel_rfl) (by kernel_rfl) (by kernel_rfl) (fun _ _ _ h => h) (Or.inr ⟨by rfl, rfl⟩) (by assumption) ?_
          simp only [Act.put, List.setIfInBounds_toArray, List.set_cons_zero, List.set_cons_succ]
          refine wpAnyH_take (i := 10) (oi := { dst := some 27, op := Op.binOp BinOp.sub 3 (Operand.tmp 26) (Operand.const (Value.int IntKind.i64 1)) 3, type := 3, pos := "valid.go:39", after := #[{ on := 9, ground := Ground.data }, { on := 7, ground := Ground.guard }], guard := some (7, true) }) (v := undef) rfl (by kernel_rfl) (by kernel_rfl) (by kernel_rfl) (fun _ _ _ h => h) (Or.inr ⟨by rfl, rfl⟩) (by assumption) ?_
          simp only [Act.put, List.setIfInBounds_toArray, List.set_cons_zero, List.set_cons_succ]
          refine wpAnyH_take (i := 11) (oi := { dst := some 28, op := Op.indexAddr 62 (Operand.tmp 25) (Operand.tmp 27), type := 0, pos := "valid.go:39", after := #[{ on := 8, ground := Ground.data }, { on := 10, ground := Ground.data }, { on := 7, ground := Ground.guard }], guard := some (7, true) }) (v := undef) rfl (by kernel_rfl) (by kernel_rfl) (by kernel_rfl) (fun _ _ _ h => h) (Or.inr ⟨by rfl, rfl⟩) (by assumption) ?_
          simp only [Act.put, List.setIfInBounds_toArray, List.set_cons_zero, List.set_cons_succ]
          refine wpAnyH_take (i := 12) (oi := { dst := some 29, op := Op.load 110 (Operand.tmp 28), type := 110, pos := "valid.go:39", after := #[{ on := 11, ground := Ground.data }, { on := 7, ground := Ground.guard }], guard := some (7, true) }) (v := undef) rfl (by kernel_rfl) (by kernel_rfl) (by kernel_rfl) (fun _ _ _ h => h) (Or.inr ⟨by rfl, rfl⟩) (by assumption) ?_
          simp only [Act.put, List.setIfInBounds_toArray, List.set_cons_zero, List.set_cons_succ]
          refine wpAnyH_take (i := 13) (oi := { dst := some 30, op := Op.load 110 (Operand.tmp 6), type := 110, pos := "valid.go:39", after := #[{ on := 7, ground := Ground.guard }], guard := some (7, true) }) (v := undef) rfl (by kernel_rfl) (by kernel_rfl) (by kernel_rfl) (fun _ _ _ h => h) (Or.inr ⟨by rfl, rfl⟩) (by assumption) ?_
          simp only [Act.put, List.setIfInBounds_toArray, List.set_cons_zero, List.set_cons_succ]
          refine wpAnyH_take (i := 14) (oi := { dst := some 31, op := Op.call { callee := Callee.value (Operand.func 100), args := #[Operand.tmp 29, Operand.tmp 30], argTypes := #[110, 110] }, type := 3, pos := "valid.go:39", after := #[{ on := 12, ground := Ground.data }, { on := 13, ground := Ground.data }, { on := 7, ground := Ground.chain }, { on := 7, ground := Ground.guard }], guard := some (7, true) }) (v := undef) rfl (by kernel_rfl) (by kernel_rfl) (by kernel_rfl) (fun _ _ _ h => h) (Or.inr ⟨by rfl, rfl⟩) (by assumption) ?_
          simp only [Act.put, List.setIfInBounds_toArray, List.set_cons_zero, List.set_cons_succ]
          refine wpAnyH_take (i := 15) (oi := { dst := some 32, op := Op.binOp BinOp.geq 3 (Operand.tmp 31) (Operand.const (Value.int IntKind.i64 0)) 3, type := 4, pos := "valid.go:39", after := #[{ on := 14, ground := Ground.data }, { on := 7, ground := Ground.guard }], guard := some (7, true) }) (v := undef) rfl (by kernel_rfl) (by kernel_rfl) (by kernel_rfl) (fun _ _ _ h => h) (Or.inr ⟨by rfl, rfl⟩) (by assumption) ?_
          simp only [Act.put, List.setIfInBounds_toArray, List.set_cons_zero, List.set_cons_succ]
          refine wpAnyH_take (i := 16) (oi := { dst := some 33, op := Op.pick (Operand.tmp 24) (Operand.tmp 32) (Operand.const (Value.bool false)), type := 4, pos := "valid.go:39", after := #[{ on := 7, ground := Ground.data }, { on := 15, ground := Ground.data }, { on := 4, ground := Ground.guard }], guard := some (4, false) }) (v := undef) rfl (by kernel_rfl) (by kernel_rfl) (by kernel_rfl) (fun _ _ _ h => h) (Or.inr ⟨by rfl, rfl⟩) (by assumption) ?_
          simp only [Act.put, List.setIfInBounds_toArray, List.set_cons_zero, List.set_cons_succ]
          refine wpAnyH_take (i := 17) (oi := { dst := some 34, op := Op.pick (Operand.tmp 21) (Operand.const (Value.bool true)) (Operand.tmp 33), type := 4, pos := "valid.go:39", after := #[{ on := 4, ground := Ground.data }, { on := 16, ground := Ground.data }], guard := none }) (v := ?va17) rfl (by kernel_rfl) (by kernel_rfl) (by kernel_rfl) (fun _ _ _ h => h) (Or.inl ⟨by rfl, ?ya17⟩) (by assumption) ?ta17
          case ya17 => (intro w hSw; try dsimp only at hSw); go_simp; try with_reducible rfl
          simp only [Act.put, List.setIfInBounds_toArray, List.set_cons_zero, List.set_cons_succ]
          refine wpAnyH_done (by kernel_rfl) ?_ _
          have HX := Lib.hid (below_step HB.out hHeld.2)
          go_wp2_with fail
          go_ret
          exact ⟨ret_bool (by rw [HE.out, ← hh.out, HE1.out]; simp), HX.out⟩
        · rcases Nat.eq_zero_or_pos k with rfl | hpos
          · have hz : decide (((0 : Nat) : Int) > 0) = false := by decide
            refine wp_region_held_drew (S := (fun v1 => WinAt v1 wr.heap.size 0 v ∧ Below wr.heap.size wr v1)) (by kernel_rfl) (HST.out _ _ S0.out (Below.refl _ _).drew) (fun hHeld => ?_)
            refine wpAnyH_take (i := 0) (oi := { dst := some 17, op := Op.load 110 (Operand.tmp 6), type := 110, pos := "valid.go:39", after := #[], guard := none }) (v := ?vb0) rfl (by kernel_rfl) (by kernel_rfl) (by kernel_rfl) (fun _ _ _ h => h) (Or.inl ⟨by rfl, ?yb0⟩) (by assumption) ?tb0
            case yb0 => (intro w hSw; obtain ⟨⟨d0, d1, d2⟩, d3⟩ := hSw); go_simp; try with_reducible rfl
            simp only [Act.put, List.setIfInBounds_toArray, List.set_cons_zero, List.set_cons_succ]
            refine wpAnyH_take (i := 1) (oi := { dst := some 18, op := Op.move (Operand.tmp 1), type := 3, pos := "valid.go:39", after := #[], guard := none }) (v := ?vb1) rfl (by kernel_rfl) (by kernel_rfl) (by kernel_rfl) (fun _ _ _ h => h) (Or.inl ⟨by rfl, ?yb1⟩) (by assumption) ?tb1
            case yb1 => (intro w hSw; try dsimp only at hSw); go_simp; try with_reducible rfl
            simp only [Act.put, List.setIfInBounds_toArray, List.set_cons_zero, List.set_cons_succ]
            refine wpAnyH_ready (rs := [2]) (by kernel_rfl) (by simp) ?_
            refine AllReadyH.cons (o := { dst := some 19, op := Op.call { callee := Callee.value (Operand.func 99), args := #[Operand.tmp 17, Operand.tmp 18], argTypes := #[110, 3] }, type := 4, pos := "valid.go:39", after := #[{ on := 0, ground := Ground.data }, { on := 1, ground := Ground.data }], guard := none }) rfl (fun K hK => ?_) AllReadyH.nil
            go_simp
            refine (HV.out _).mono ?_; rintro e w4 ⟨rfl, hb4⟩
            refine hK.out _ _ (HST.out _ _ (by assumption) hb4) (fun hHeld' => ?_)
            clear hK K hHeld
            have hHeld := hHeld'; clear hHeld'
            try simp only [Act.put, List.setIfInBounds_toArray, List.set_cons_zero, List.set_cons_succ]
            refine wpAnyH_take (i := 3) (oi := { dst := some 20, op := Op.unOp UnOp.not 4 (Operand.tmp 19), type := 4, pos := "valid.go:39", after := #[{ on := 2, ground := Ground.data }], guard := none }) (v := ?vb3) rfl (by kernel_rfl) (by kernel_rfl) (by kernel_rfl) (fun _ _ _ h => h) (Or.inl ⟨by rfl, ?yb3⟩) (by assumption) ?tb3
            case yb3 => (intro w hSw; try dsimp only at hSw); go_simp; try with_reducible rfl
            simp only [Act.put, List.setIfInBounds_toArray, List.set_cons_zero, List.set_cons_succ]
            refine wpAnyH_take (i := 4) (oi := { dst := some 21, op := Op.move (Operand.tmp 20), type := 4, pos := "valid.go:39", after := #[{ on := 3, ground := Ground.data }, { on := 2, ground := Ground.chain }], guard := none }) (v := ?vb4) rfl (by kernel_rfl) (by kernel_rfl) (by kernel_rfl) (fun _ _ _ h => h) (Or.inl ⟨by rfl, ?yb4⟩) (by assumption) ?tb4
            case yb4 => (intro w hSw; try dsimp only at hSw); go_simp; try with_reducible rfl
            simp only [Act.put, List.setIfInBounds_toArray, List.set_cons_zero, List.set_cons_succ]
            refine wpAnyH_take (i := 5) (oi := { dst := some 22, op := Op.move (Operand.tmp 5), type := 3, pos := "valid.go:39", after := #[{ on := 4, ground := Ground.guard }], guard := some (4, false) }) (v := ?vb5) rfl (by kernel_rfl) (by kernel_rfl) (by kernel_rfl) (fun _ _ _ h => h) (Or.inl ⟨by rfl, ?yb5⟩) (by assumption) ?tb5
            case yb5 => (intro w hSw; try dsimp only at hSw); go_simp; try with_reducible rfl
            simp only [Act.put, List.setIfInBounds_toArray, List.set_cons_zero, List.set_cons_succ]
            refine wpAnyH_take (i := 6) (oi := { dst := some 23, op := Op.binOp BinOp.gtr 3 (Operand.tmp 22) (Operand.const (Value.int IntKind.i64 0)) 3, type := 4, pos := "valid.go:39", after := #[{ on := 5, ground := Ground.data }, { on := 4, ground := Ground.guard }], guard := some (4, false) }) (v := ?vb6) rfl (by kernel_rfl) (by kernel_rfl) (by kernel_rfl) (fun _ _ _ h => h) (Or.inl ⟨by rfl, ?yb6⟩) (by assumption) ?tb6
            case yb6 => (intro w hSw; try dsimp only at hSw); go_simp; try with_reducible rfl
            simp only [Act.put, List.setIfInBounds_toArray, List.set_cons_zero, List.set_cons_succ]
            refine wpAnyH_take (i := 7) (oi := { dst := some 24, op := Op.move (Operand.tmp 23), type := 4, pos := "valid.go:39", after := #[{ on := 6, ground := Ground.data }, { on := 4, ground := Ground.chain }, { on := 4, ground := Ground.guard }], guard := some (4, false) }) (v := ?vb7) rfl (by kernel_rfl) (by kernel_rfl) (by kernel_rfl) (fun _ _ _ h => h) (Or.inl ⟨by rfl, ?yb7⟩) (by assumption) ?tb7
            case yb7 => (intro w hSw; try dsimp only at hSw); go_simp; try with_reducible rfl
            simp only [Act.put, List.setIfInBounds_toArray, List.set_cons_zero, List.set_cons_succ]
            refine wpAnyH_take (i := 8) (oi := { dst := some 25, op := Op.move (Operand.tmp 0), type := 62, pos := "valid.go:39", after := #[{ on := 7, ground := Ground.guard }], guard := some (7, true) }) (v := undef) rfl (by kernel_rfl) (by kernel_rfl) (by kernel_rfl) (fun _ _ _ h => h) (Or.inr ⟨by rfl, rfl⟩) (by assumption) ?_
            simp only [Act.put, List.setIfInBounds_toArray, List.set_cons_zero, List.set_cons_succ]
            refine wpAnyH_take (i := 9) (oi := { dst := some 26, op := Op.move (Operand.tmp 5), type := 3, pos := "valid.go:39", after := #[{ on := 7, ground := Ground.guard }], guard := some (7, true) }) (v := undef) rfl (by kernel_rfl) (by kernel_rfl) (by kernel_rfl) (fun _ _ _ h => h) (Or.inr ⟨by rfl, rfl⟩) (by assumption) ?_
            simp only [Act.put, List.setIfInBounds_toArray, List.set_cons_zero, List.set_cons_succ]
            refine wpAnyH_take (i := 10) (oi := { dst := some 27, op := Op.binOp BinOp.sub 3 (Operand.tmp 26) (Operand.const (Value.int IntKind.i64 1)) 3, type := 3, pos := "valid.go:39", after := #[{ on := 9, ground := Ground.data }, { on := 7, ground := Ground.guard }], guard := some (7, true) }) (v := undef) rfl (by kernel_rfl) (by kernel_rfl) (by kernel_rfl) (fun _ _ _ h => h) (Or.inr ⟨by rfl, rfl⟩) (by assumption) ?_
            simp only [Act.put, List.setIfInBounds_toArray, List.set_cons_zero, List.set_cons_succ]
            refine wpAnyH_take (i := 11) (oi := { dst := some 28, op := Op.indexAddr 62 (Operand.tmp 25) (Operand.tmp 27), type := 0, pos := "valid.go:39", after := #[{ on := 8, ground := Ground.data }, { on := 10, ground := Ground.data }, { on := 7, ground := Ground.guard }], guard := some (7, true) }) (v := undef) rfl (by kernel_rfl) (by kernel_rfl) (by kernel_rfl) (fun _ _ _ h => h) (Or.inr ⟨by rfl, rfl⟩) (by assumption) ?_
            simp only [Act.put, List.setIfInBounds_toArray, List.set_cons_zero, List.set_cons_succ]
            refine wpAnyH_take (i := 12) (oi := { dst := some 29, op := Op.load 110 (Operand.tmp 28), type := 110, pos := "valid.go:39", after := #[{ on := 11, ground := Ground.data }, { on := 7, ground := Ground.guard }], guard := some (7, true) }) (v := undef) rfl (by kernel_rfl) (by kernel_rfl) (by kernel_rfl) (fun _ _ _ h => h) (Or.inr ⟨by rfl, rfl⟩) (by assumption) ?_
            simp only [Act.put, List.setIfInBounds_toArray, List.set_cons_zero, List.set_cons_succ]
            refine wpAnyH_take (i := 13) (oi := { dst := some 30, op := Op.load 110 (Operand.tmp 6), type := 110, pos := "valid.go:39", after := #[{ on := 7, ground := Ground.guard }], guard := some (7, true) }) (v := undef) rfl (by kernel_rfl) (by kernel_rfl) (by kernel_rfl) (fun _ _ _ h => h) (Or.inr ⟨by rfl, rfl⟩) (by assumption) ?_
            simp only [Act.put, List.setIfInBounds_toArray, List.set_cons_zero, List.set_cons_succ]
            refine wpAnyH_take (i := 14) (oi := { dst := some 31, op := Op.call { callee := Callee.value (Operand.func 100), args := #[Operand.tmp 29, Operand.tmp 30], argTypes := #[110, 110] }, type := 3, pos := "valid.go:39", after := #[{ on := 12, ground := Ground.data }, { on := 13, ground := Ground.data }, { on := 7, ground := Ground.chain }, { on := 7, ground := Ground.guard }], guard := some (7, true) }) (v := undef) rfl (by kernel_rfl) (by kernel_rfl) (by kernel_rfl) (fun _ _ _ h => h) (Or.inr ⟨by rfl, rfl⟩) (by assumption) ?_
            simp only [Act.put, List.setIfInBounds_toArray, List.set_cons_zero, List.set_cons_succ]
            refine wpAnyH_take (i := 15) (oi := { dst := some 32, op := Op.binOp BinOp.geq 3 (Operand.tmp 31) (Operand.const (Value.int IntKind.i64 0)) 3, type := 4, pos := "valid.go:39", after := #[{ on := 14, ground := Ground.data }, { on := 7, ground := Ground.guard }], guard := some (7, true) }) (v := undef) rfl (by kernel_rfl) (by kernel_rfl) (by kernel_rfl) (fun _ _ _ h => h) (Or.inr ⟨by rfl, rfl⟩) (by assumption) ?_
            simp only [Act.put, List.setIfInBounds_toArray, List.set_cons_zero, List.set_cons_succ]
            refine wpAnyH_take (i := 16) (oi := { dst := some 33, op := Op.pick (Operand.tmp 24) (Operand.tmp 32) (Operand.const (Value.bool false)), type := 4, pos := "valid.go:39", after := #[{ on := 7, ground := Ground.data }, { on := 15, ground := Ground.data }, { on := 4, ground := Ground.guard }], guard := some (4, false) }) (v := ?vb16) rfl (by kernel_rfl) (by kernel_rfl) (by kernel_rfl) (fun _ _ _ h => h) (Or.inl ⟨by rfl, ?yb16⟩) (by assumption) ?tb16
            case yb16 => (intro w hSw; try dsimp only at hSw); go_simp; try with_reducible rfl
            simp only [Act.put, List.setIfInBounds_toArray, List.set_cons_zero, List.set_cons_succ]
            refine wpAnyH_take (i := 17) (oi := { dst := some 34, op := Op.pick (Operand.tmp 21) (Operand.const (Value.bool true)) (Operand.tmp 33), type := 4, pos := "valid.go:39", after := #[{ on := 4, ground := Ground.data }, { on := 16, ground := Ground.data }], guard := none }) (v := ?vb17) rfl (by kernel_rfl) (by kernel_rfl) (by kernel_rfl) (fun _ _ _ h => h) (Or.inl ⟨by rfl, ?yb17⟩) (by assumption) ?tb17
            case yb17 => (intro w hSw; try dsimp only at hSw); go_simp; try with_reducible rfl
            simp only [Act.put, List.setIfInBounds_toArray, List.set_cons_zero, List.set_cons_succ]
            refine wpAnyH_done (by kernel_rfl) ?_ _
            have HX := Lib.hid (below_step HB.out hHeld.2)
            go_wp2_with fail
            go_roundw
            case rel => exact ⟨1, by omega, by rfl, HX.out, Lib.hid (by rw [← hh.out, HE1.out]; simp [prevW])⟩
            case measure => simp [intOf]; omega
          · obtain ⟨k', rfl⟩ : ∃ k', k = k' + 1 := ⟨k - 1, by omega⟩
            obtain ⟨u, hu, hU⟩ := HP.out k' rfl
            have HU := Lib.hid hU; have HU2 := Lib.hid hu; clear hU hu
            have i1 : ((k' + 1 : Nat) : Int) - 1 = (k' : Int) := by omega
            have hz : decide (((k' + 1 : Nat) : Int) > 0) = true := by simp
            have i2 : IntKind.i64.wrap (k' : Int) = (k' : Int) := IntWalk.i64_in _ (by omega)
            have i3 : (0 : Int) ≤ (k' : Int) := by omega
            have i4 : (k' : Int) < (L.length : Int) := by omega
            have i5 : ((k' : Int)).toNat = k' := by omega
            obtain ⟨q, hq⟩ : ∃ q, cmpW u v = q := ⟨_, rfl⟩
            have hcm := fun w => compareWindows_any u v w
            rw [hq] at hcm
            have HM := Lib.hid hcm; have HQ := Lib.hid hq; clear hcm hq
            refine wp_region_held_drew (S := (fun v1 => WinAt v1 wr.heap.size 0 v ∧ Below wr.heap.size wr v1)) (by kernel_rfl) (HST.out _ _ S0.out (Below.refl _ _).drew) (fun hHeld => ?_)
            refine wpAnyH_take (i := 0) (oi := { dst := some 17, op := Op.load 110 (Operand.tmp 6), type := 110, pos := "valid.go:39", after := #[], guard := none }) (v := ?vc0) rfl (by kernel_rfl) (by kernel_rfl) (by kernel_rfl) (fun _ _ _ h => h) (Or.inl ⟨by rfl, ?yc0⟩) (by assumption) ?tc0
            case yc0 => (intro w hSw; obtain ⟨⟨d0, d1, d2⟩, d3⟩ := hSw); go_simp; try with_reducible rfl
            simp only [Act.put, List.setIfInBounds_toArray, List.set_cons_zero, List.set_cons_succ]
            refine wpAnyH_take (i := 1) (oi := { dst := some 18, op := Op.move (Operand.tmp 1), type := 3, pos := "valid.go:39", after := #[], guard := none }) (v := ?vc1) rfl (by kernel_rfl) (by kernel_rfl) (by kernel_rfl) (fun _ _ _ h => h) (Or.inl ⟨by rfl, ?yc1⟩) (by assumption) ?tc1
            case yc1 => (intro w hSw; try dsimp only at hSw); go_simp; try with_reducible rfl
            simp only [Act.put, List.setIfInBounds_toArray, List.set_cons_zero, List.set_cons_succ]
            refine wpAnyH_ready (rs := [2]) (by kernel_rfl) (by simp) ?_
            refine AllReadyH.cons (o := { dst := some 19, op := Op.call { callee := Callee.value (Operand.func 99), args := #[Operand.tmp 17, Operand.tmp 18], argTypes := #[110, 3] }, type := 4, pos := "valid.go:39", after := #[{ on := 0, ground := Ground.data }, { on := 1, ground := Ground.data }], guard := none }) rfl (fun K hK => ?_) AllReadyH.nil
            go_simp
            refine (HV.out _).mono ?_; rintro e w4 ⟨rfl, hb4⟩
            refine hK.out _ _ (HST.out _ _ (by assumption) hb4) (fun hHeld' => ?_)
            clear hK K hHeld
            have hHeld := hHeld'; clear hHeld'
            try simp only [Act.put, List.setIfInBounds_toArray, List.set_cons_zero, List.set_cons_succ]
            refine wpAnyH_take (i := 3) (oi := { dst := some 20, op := Op.unOp UnOp.not 4 (Operand.tmp 19), type := 4, pos := "valid.go:39", after := #[{ on := 2, ground := Ground.data }], guard := none }) (v := ?vc3) rfl (by kernel_rfl) (by kernel_rfl) (by kernel_rfl) (fun _ _ _ h => h) (Or.inl ⟨by rfl, ?yc3⟩) (by assumption) ?tc3
            case yc3 => (intro w hSw; try dsimp only at hSw); go_simp; try with_reducible rfl
            simp only [Act.put, List.setIfInBounds_toArray, List.set_cons_zero, List.set_cons_succ]
            refine wpAnyH_take (i := 4) (oi := { dst := some 21, op := Op.move (Operand.tmp 20), type := 4, pos := "valid.go:39", after := #[{ on := 3, ground := Ground.data }, { on := 2, ground := Ground.chain }], guard := none }) (v := ?vc4) rfl (by kernel_rfl) (by kernel_rfl) (by kernel_rfl) (fun _ _ _ h => h) (Or.inl ⟨by rfl, ?yc4⟩) (by assumption) ?tc4
            case yc4 => (intro w hSw; try dsimp only at hSw); go_simp; try with_reducible rfl
            simp only [Act.put, List.setIfInBounds_toArray, List.set_cons_zero, List.set_cons_succ]
            refine wpAnyH_take (i := 5) (oi := { dst := some 22, op := Op.move (Operand.tmp 5), type := 3, pos := "valid.go:39", after := #[{ on := 4, ground := Ground.guard }], guard := some (4, false) }) (v := ?vc5) rfl (by kernel_rfl) (by kernel_rfl) (by kernel_rfl) (fun _ _ _ h => h) (Or.inl ⟨by rfl, ?yc5⟩) (by assumption) ?tc5
            case yc5 => (intro w hSw; try dsimp only at hSw); go_simp; try with_reducible rfl
            simp only [Act.put, List.setIfInBounds_toArray, List.set_cons_zero, List.set_cons_succ]
            refine wpAnyH_take (i := 6) (oi := { dst := some 23, op := Op.binOp BinOp.gtr 3 (Operand.tmp 22) (Operand.const (Value.int IntKind.i64 0)) 3, type := 4, pos := "valid.go:39", after := #[{ on := 5, ground := Ground.data }, { on := 4, ground := Ground.guard }], guard := some (4, false) }) (v := ?vc6) rfl (by kernel_rfl) (by kernel_rfl) (by kernel_rfl) (fun _ _ _ h => h) (Or.inl ⟨by rfl, ?yc6⟩) (by assumption) ?tc6
            case yc6 => (intro w hSw; try dsimp only at hSw); go_simp; try with_reducible rfl
            simp only [Act.put, List.setIfInBounds_toArray, List.set_cons_zero, List.set_cons_succ]
            refine wpAnyH_take (i := 7) (oi := { dst := some 24, op := Op.move (Operand.tmp 23), type := 4, pos := "valid.go:39", after := #[{ on := 6, ground := Ground.data }, { on := 4, ground := Ground.chain }, { on := 4, ground := Ground.guard }], guard := some (4, false) }) (v := ?vc7) rfl (by kernel_rfl) (by kernel_rfl) (by kernel_rfl) (fun _ _ _ h => h) (Or.inl ⟨by rfl, ?yc7⟩) (by assumption) ?tc7
            case yc7 => (intro w hSw; try dsimp only at hSw); go_simp; try with_reducible rfl
            simp only [Act.put, List.setIfInBounds_toArray, List.set_cons_zero, List.set_cons_succ]
            refine wpAnyH_take (i := 8) (oi := { dst := some 25, op := Op.move (Operand.tmp 0), type := 62, pos := "valid.go:39", after := #[{ on := 7, ground := Ground.guard }], guard := some (7, true) }) (v := ?vc8) rfl (by kernel_rfl) (by kernel_rfl) (by kernel_rfl) (fun _ _ _ h => h) (Or.inl ⟨by rfl, ?yc8⟩) (by assumption) ?tc8
            case yc8 => (intro w hSw; try dsimp only at hSw); go_simp; try with_reducible rfl
            simp only [Act.put, List.setIfInBounds_toArray, List.set_cons_zero, List.set_cons_succ]
            refine wpAnyH_take (i := 9) (oi := { dst := some 26, op := Op.move (Operand.tmp 5), type := 3, pos := "valid.go:39", after := #[{ on := 7, ground := Ground.guard }], guard := some (7, true) }) (v := ?vc9) rfl (by kernel_rfl) (by kernel_rfl) (by kernel_rfl) (fun _ _ _ h => h) (Or.inl ⟨by rfl, ?yc9⟩) (by assumption) ?tc9
            case yc9 => (intro w hSw; try dsimp only at hSw); go_simp; try with_reducible rfl
            simp only [Act.put, List.setIfInBounds_toArray, List.set_cons_zero, List.set_cons_succ]
            refine wpAnyH_take (i := 10) (oi := { dst := some 27, op := Op.binOp BinOp.sub 3 (Operand.tmp 26) (Operand.const (Value.int IntKind.i64 1)) 3, type := 3, pos := "valid.go:39", after := #[{ on := 9, ground := Ground.data }, { on := 7, ground := Ground.guard }], guard := some (7, true) }) (v := ?vc10) rfl (by kernel_rfl) (by kernel_rfl) (by kernel_rfl) (fun _ _ _ h => h) (Or.inl ⟨by rfl, ?yc10⟩) (by assumption) ?tc10
            case yc10 => (intro w hSw; try dsimp only at hSw); go_simp; try with_reducible rfl
            simp only [Act.put, List.setIfInBounds_toArray, List.set_cons_zero, List.set_cons_succ]
            refine wpAnyH_take (i := 11) (oi := { dst := some 28, op := Op.indexAddr 62 (Operand.tmp 25) (Operand.tmp 27), type := 0, pos := "valid.go:39", after := #[{ on := 8, ground := Ground.data }, { on := 10, ground := Ground.data }, { on := 7, ground := Ground.guard }], guard := some (7, true) }) (v := ?vc11) rfl (by kernel_rfl) (by kernel_rfl) (by kernel_rfl) (fun _ _ _ h => h) (Or.inl ⟨by rfl, ?yc11⟩) (by assumption) ?tc11
            case yc11 => (intro w hSw; try dsimp only at hSw); go_simp; try with_reducible rfl
            simp only [Act.put, List.setIfInBounds_toArray, List.set_cons_zero, List.set_cons_succ]
            refine wpAnyH_take (i := 12) (oi := { dst := some 29, op := Op.load 110 (Operand.tmp 28), type := 110, pos := "valid.go:39", after := #[{ on := 11, ground := Ground.data }, { on := 7, ground := Ground.guard }], guard := some (7, true) }) (v := ?vc12) rfl (by kernel_rfl) (by kernel_rfl) (by kernel_rfl) (fun _ _ _ h => h) (Or.inl ⟨by rfl, ?yc12⟩) (by assumption) ?tc12
            case yc12 => (intro w hSw; obtain ⟨d0, d1, d2⟩ := HU.out.below hSw.2); go_simp; try with_reducible rfl
            simp only [Act.put, List.setIfInBounds_toArray, List.set_cons_zero, List.set_cons_succ]
            refine wpAnyH_take (i := 13) (oi := { dst := some 30, op := Op.load 110 (Operand.tmp 6), type := 110, pos := "valid.go:39", after := #[{ on := 7, ground := Ground.guard }], guard := some (7, true) }) (v := ?vc13) rfl (by kernel_rfl) (by kernel_rfl) (by kernel_rfl) (fun _ _ _ h => h) (Or.inl ⟨by rfl, ?yc13⟩) (by assumption) ?tc13
            case yc13 => (intro w hSw; obtain ⟨⟨d0, d1, d2⟩, d3⟩ := hSw); go_simp; try with_reducible rfl
            simp only [Act.put, List.setIfInBounds_toArray, List.set_cons_zero, List.set_cons_succ]
            refine wpAnyH_ready (rs := [14]) (by kernel_rfl) (by simp) ?_
            refine AllReadyH.cons (o := { dst := some 31, op := Op.call { callee := Callee.value (Operand.func 100), args := #[Operand.tmp 29, Operand.tmp 30], argTypes := #[110, 110] }, type := 3, pos := "valid.go:39", after := #[{ on := 12, ground := Ground.data }, { on := 13, ground := Ground.data }, { on := 7, ground := Ground.chain }, { on := 7, ground := Ground.guard }], guard := some (7, true) }) rfl (fun K hK => ?_) AllReadyH.nil
            go_simp
            refine (HM.out _).mono ?_; rintro e w4 ⟨rfl, hb4⟩
            refine hK.out _ _ (HST.out _ _ (by assumption) hb4) (fun hHeld' => ?_)
            clear hK K hHeld
            have hHeld := hHeld'; clear hHeld'
            try simp only [Act.put, List.setIfInBounds_toArray, List.set_cons_zero, List.set_cons_succ]
            refine wpAnyH_take (i := 15) (oi := { dst := some 32, op := Op.binOp BinOp.geq 3 (Operand.tmp 31) (Operand.const (Value.int IntKind.i64 0)) 3, type := 4, pos := "valid.go:39", after := #[{ on := 14, ground := Ground.data }, { on := 7, ground := Ground.guard }], guard := some (7, true) }) (v := ?vc15) rfl (by kernel_rfl) (by kernel_rfl) (by kernel_rfl) (fun _ _ _ h => h) (Or.inl ⟨by rfl, ?yc15⟩) (by assumption) ?tc15
            case yc15 => (intro w hSw; try dsimp only at hSw); go_simp; try with_reducible rfl
            simp only [Act.put, List.setIfInBounds_toArray, List.set_cons_zero, List.set_cons_succ]
            refine wpAnyH_take (i := 16) (oi := { dst := some 33, op := Op.pick (Operand.tmp 24) (Operand.tmp 32) (Operand.const (Value.bool false)), type := 4, pos := "valid.go:39", after := #[{ on := 7, ground := Ground.data }, { on := 15, ground := Ground.data }, { on := 4, ground := Ground.guard }], guard := some (4, false) }) (v := ?vc16) rfl (by kernel_rfl) (by kernel_rfl) (by kernel_rfl) (fun _ _ _ h => h) (Or.inl ⟨by rfl, ?yc16⟩) (by assumption) ?tc16
            case yc16 => (intro w hSw; try dsimp only at hSw); go_simp; try with_reducible rfl
            simp only [Act.put, List.setIfInBounds_toArray, List.set_cons_zero, List.set_cons_succ]
            refine wpAnyH_take (i := 17) (oi := { dst := some 34, op := Op.pick (Operand.tmp 21) (Operand.const (Value.bool true)) (Operand.tmp 33), type := 4, pos := "valid.go:39", after := #[{ on := 4, ground := Ground.data }, { on := 16, ground := Ground.data }], guard := none }) (v := ?vc17) rfl (by kernel_rfl) (by kernel_rfl) (by kernel_rfl) (fun _ _ _ h => h) (Or.inl ⟨by rfl, ?yc17⟩) (by assumption) ?tc17
            case yc17 => (intro w hSw; try dsimp only at hSw); go_simp; try with_reducible rfl
            simp only [Act.put, List.setIfInBounds_toArray, List.set_cons_zero, List.set_cons_succ]
            refine wpAnyH_done (by kernel_rfl) ?_ _
            have HX := Lib.hid (below_step HB.out hHeld.2)
            have HK := Lib.hid (cmpW_ahead u v)
            rw [HQ.out] at HK
            clear i1 i2 i3 i4 i5 hz
            by_cases hq0 : 0 ≤ q
            · have HF := Lib.hid (show Pl.before u v = false by have := HK.out; simpa [hq0] using this.symm)
              go_wp2_with fail
              go_ret
              exact ⟨ret_bool (by rw [HE.out, ← hh.out, HE1.out, HU2.out]; simp [HF.out]), HX.out⟩
            · have HF := Lib.hid (show Pl.before u v = true by have := HK.out; simpa [hq0] using this.symm)
              go_wp2_with fail
              go_roundw
              case rel => exact ⟨k' + 1 + 1, by omega, by go_num, HX.out, Lib.hid (by rw [← hh.out, HE1.out, HU2.out]; simp [HF.out])⟩
              case measure => simp [intOf]; omega
      · have HF := Lib.hid (show Pl.okWinsFrom n none L = true by rw [← hh.out, List.drop_of_length_le (by omega)]; cases prevW L k <;> rfl)
        go_wp2_with fail
        go_ret
        exact ⟨ret_bool (by rw [HE.out, HF.out]), hb⟩
  · have hE : Pl.okWins L n = false := by unfold Pl.okWins; simp [h20]
    have HE := Lib.hid hE; clear hE
    go_enter Try.func80, Try.ntmps80
    go_wp2_with fail
    go_ret
    exact ⟨ret_bool HE.out.symm, Below.refl _ _⟩
end Go.Proofs.Ytjdhjlhcdpekbaa.Pe

namespace Go.Proofs.Ytjdhjlhcdpekbaa.Pe
open Go.RowKit

theorem st_cells {w : World} {b o : Nat} {x : Pl.Stage} (h : ∀ (j : Nat) (v : Value), (stageCells x)[j]? = some v → w.cell? ⟨b, o + j, none⟩ = some v) :
    w.cell? ⟨b, o, none⟩ = some (.int .i64 x.mn) ∧ w.cell? ⟨b, o + 1, none⟩ = some (.int .i64 x.mx) ∧ w.cell? ⟨b, o + 2, none⟩ = some (.int .i64 x.m.tool) ∧ w.cell? ⟨b, o + 3, none⟩ = some (.int .i64 x.m.start) ∧
    w.cell? ⟨b, o + 4, none⟩ = some (.int .i64 x.s.tool) ∧ w.cell? ⟨b, o + 5, none⟩ = some (.int .i64 x.s.start) := ⟨h 0 _ rfl, h 1 _ rfl, h 2 _ rfl, h 3 _ rfl, h 4 _ rfl, h 5 _ rfl⟩
theorem wn_cells {w : World} {b o : Nat} {x : Pl.Win} (h : ∀ (j : Nat) (v : Value), (winCells x)[j]? = some v → w.cell? ⟨b, o + j, none⟩ = some v) :
    w.cell? ⟨b, o, none⟩ = some (.int .i64 x.f) ∧ w.cell? ⟨b, o + 1, none⟩ = some (.int .i64 x.t) ∧ w.cell? ⟨b, o + 2, none⟩ = some (.int .i64 x.lim) := ⟨h 0 _ rfl, h 1 _ rfl, h 2 _ rfl⟩
theorem winsA_of {w : World} {a : Option Addr} {c : Nat} {L : List Pl.Win} (h : WnA w a c L) : WinsA w a c L := by
  refine ⟨h.1, h.2.1, fun i hi => ?_⟩
  obtain ⟨b, off, rfl, h1, h2⟩ := h.2.2 i hi
  have := wn_cells h2
  exact ⟨b, off, rfl, h1, ⟨this.1, this.2.1, this.2.2⟩⟩
theorem validWindows_any (L : List Pl.Win) (n : Nat) (a : Option Addr) (c : Nat) (w : World) (h : WnA w a c L) :
    Calls Try.prog 80 #[.slice a L.length c, .int .i64 (n : Int)] w fun e w' => e = .returned (.bool (Pl.okWins L n)) ∧ Below w.heap.size w w' := validWindows_at L n a c w (winsA_of h)
set_option maxRecDepth 100000 in
set_option maxHeartbeats 1000000 in
theorem validStages_any (L : List Pl.Stage) (a : Option Addr) (c : Nat) (w : World) (h : StA w a c L) :
    Calls Try.prog 79 #[.slice a L.length c] w fun e w' => e = .returned (.bool (Pl.okStages L)) ∧ Below w.heap.size w w' := by
  have hlen := h.len
  unfold maxLen at hlen
  have HA := Lib.hid h; clear h
  have HW := Lib.hid (within_any (L.length : Int) 1 8)
  unfold Pl.okStages
  generalize Pl.within (L.length : Int) 1 8 = B at *
  cases B
  · go_enter Try.func79, Try.ntmps79
    go_wp2_with fail
    refine (HW.out _).mono ?_; rintro _ w1 ⟨rfl, rfl⟩
    go_wp2_with fail
    go_ret
    exact ⟨ret_bool (by simp), Below.refl _ _⟩
  · go_enter Try.func79, Try.ntmps79
    go_wp2_with fail
    refine (HW.out _).mono ?_; rintro _ w1 ⟨rfl, rfl⟩
    go_wp2_with fail
    go_loopw [11] (fun i wr => ∃ k : Nat, k ≤ L.length ∧ i = .int .i64 (k : Int) ∧ Hid ((L.take k).all Pl.okStage = true) ∧ Hid (Below w.heap.size w wr)) (fun i _ => L.length - (intOf i).toNat)
    case atStart => exact ⟨0, Nat.zero_le _, rfl, Lib.hid rfl, Lib.hid (Below.refl _ _)⟩
    case round =>
      obtain ⟨k, hk, rfl, hh, hb⟩ := hrel
      by_cases hlt : k < L.length
      · obtain ⟨b, off, rfl, hbb, h1⟩ := (HA.out.below hb.out).2.2 k hlt
        obtain ⟨c0, c1, c2, c3, c4, c5⟩ := st_cells h1
        have HT := Lib.hid (show (L.take (k + 1)).all Pl.okStage = (true && Pl.okStage L[k]) by rw [List.take_succ_eq_append_getElem hlt, List.all_append, hh.out]; simp)
        have HF := Lib.hid (show Pl.okStage L[k] = false → L.all Pl.okStage = false from fun h => by
          rw [List.all_eq_false]; exact ⟨L[k], List.getElem_mem hlt, by simp [h]⟩)
        clear h1
        generalize L[k] = x at *
        have HV := Lib.hid (validStage_any x)
        have HB := Lib.hid (below_step hb.out (below_new wr (stageObj x)))
        generalize Pl.okStage x = V at *
        cases V
        · go_wp2_with fail
          refine (HV.out _).mono ?_; rintro _ w2 ⟨rfl, g2⟩
          have G2 := Lib.hid g2; clear g2
          go_wp2_with fail
          go_ret
          exact ⟨ret_bool (by rw [HF.out trivial]; rfl), below_step HB.out G2.out⟩
        · go_wp2_with fail
          refine (HV.out _).mono ?_; rintro _ w2 ⟨rfl, g2⟩
          have G2 := Lib.hid g2; clear g2
          go_wp2_with fail
          go_roundw
          case rel => exact ⟨k + 1, by omega, by go_num, Lib.hid HT.out, Lib.hid (below_step HB.out G2.out)⟩
          case measure => simp [intOf]; omega
      · have HF := Lib.hid (show L.all Pl.okStage = true by rw [← List.take_of_length_le (l := L) (i := k) (by omega)]; exact hh.out)
        go_wp2_with fail
        go_ret
        exact ⟨ret_bool (by rw [HF.out]; rfl), hb.out⟩
abbrev planObj (q : PlanP) : Obj := .cells #[.int .i64 q.p.entry, .int .i64 q.p.mmin, .int .i64 q.p.mmax, .slice q.sa q.p.st.length q.sc, .slice q.wa q.p.wn.length q.wc] 64
abbrev scenObj (q : ScenP) : Obj := .cells #[.slice q.da q.s.dur.length q.dc, .slice q.ma q.s.mv.length q.mc, .int .i64 q.s.det, .int .i64 q.s.tool, .int .i64 q.s.at_] 67
set_option maxRecDepth 100000 in
set_option maxHeartbeats 1000000 in
theorem Valid_any (q : PlanP) (w : World) (h : q.ok w) : Calls Try.prog 62 #[q.val] w fun e w' => e = .returned (.bool (Pl.valid q.p)) ∧ Below w.heap.size w w' := by
  obtain ⟨⟨en, mi, ma, st, wn⟩, sa, sc, wa, wc⟩ := q
  unfold Pl.valid
  have HN := Lib.hid (heap_alloc_new w (planObj ⟨⟨en, mi, ma, st, wn⟩, sa, sc, wa, wc⟩))
  have HG := Lib.hid (below_new w (planObj ⟨⟨en, mi, ma, st, wn⟩, sa, sc, wa, wc⟩))
  have H1 := Lib.hid (within_any en 0 1000000)
  have H2 := Lib.hid (within_any mi 0 ma)
  have H3 := Lib.hid (fun v (hv : Below w.heap.size w v) => validStages_any st sa sc v (h.st.below hv))
  have H4 := Lib.hid (fun v (hv : Below w.heap.size w v) => validWindows_any wn st.length wa wc v (h.wn.below hv))
  clear h
  simp only
  generalize Pl.within en 0 1000000 = B1 at *
  generalize Pl.within mi 0 ma = B2 at *
  generalize Pl.okStages st = B3 at *
  generalize Pl.okWins wn st.length = B4 at *
  cases B1
  · go_enter Try.func62, Try.ntmps62
    go_wp2_with fail
    refine (H1.out _).mono ?_; rintro _ w1 ⟨rfl, rfl⟩
    go_wp2_with fail
    go_ret
    exact ⟨ret_bool (by simp), HG.out⟩
  cases B2
  · go_enter Try.func62, Try.ntmps62
    go_wp2_with fail
    refine (H1.out _).mono ?_; rintro _ w1 ⟨rfl, rfl⟩
    go_wp2_with fail
    refine (H2.out _).mono ?_; rintro _ w1 ⟨rfl, rfl⟩
    go_wp2_with fail
    go_ret
    exact ⟨ret_bool (by simp), HG.out⟩
  by_cases h3 : ma ≤ 10000
  rotate_left
  · go_enter Try.func62, Try.ntmps62
    go_wp2_with fail
    refine (H1.out _).mono ?_; rintro _ w1 ⟨rfl, rfl⟩
    go_wp2_with fail
    refine (H2.out _).mono ?_; rintro _ w1 ⟨rfl, rfl⟩
    go_wp2_with fail
    go_ret
    exact ⟨ret_bool (by simp; intros; omega), HG.out⟩
  cases B3
  · go_enter Try.func62, Try.ntmps62
    go_wp2_with fail
    refine (H1.out _).mono ?_; rintro _ w1 ⟨rfl, rfl⟩
    go_wp2_with fail
    refine (H2.out _).mono ?_; rintro _ w1 ⟨rfl, rfl⟩
    go_wp2_with fail
    refine (H3.out _ HG.out).mono ?_; rintro _ w2 ⟨rfl, g2⟩
    have G2 := Lib.hid g2; clear g2
    go_wp2_with fail
    go_ret
    exact ⟨ret_bool (by simp), below_step HG.out G2.out⟩
  · go_enter Try.func62, Try.ntmps62
    go_wp2_with fail
    refine (H1.out _).mono ?_; rintro _ w1 ⟨rfl, rfl⟩
    go_wp2_with fail
    refine (H2.out _).mono ?_; rintro _ w1 ⟨rfl, rfl⟩
    go_wp2_with fail
    refine (H3.out _ HG.out).mono ?_; rintro _ w2 ⟨rfl, g2⟩
    have HM := box_below HN.out g2
    have c3 := box_cell HM 3 _ rfl
    have c4 := box_cell HM 4 _ rfl
    have G2 := Lib.hid (below_step HG.out g2); clear g2 HM
    go_wp2_with fail
    refine (H4.out _ G2.out).mono ?_; rintro _ w3 ⟨rfl, g3⟩
    have G3 := Lib.hid g3; clear g3
    go_wp2_with fail
    go_ret
    exact ⟨ret_bool (by simp [h3]), below_step G2.out G3.out⟩
theorem within_is (n a b : Int) (w : World) : Calls Try.prog 63 #[.int .i64 n, .int .i64 a, .int .i64 b] w fun e w' => e = .returned (.bool (Pl.within n a b)) ∧ w' = w := (within_any n a b w).mono fun _ _ h => ⟨h.1, h.2.symm⟩
theorem okDurs_drop (D : List Int) (l : List Pl.Stage) (k : Nat) (h1 : k < D.length) (h2 : k < l.length) : Pl.okDurs (D.drop k) (l.drop k) = (Pl.within D[k] l[k].mn l[k].mx && Pl.okDurs (D.drop (k + 1)) (l.drop (k + 1))) := by
  rw [List.drop_eq_getElem_cons h1, List.drop_eq_getElem_cons h2]; rfl
theorem okDurs_len : ∀ {D : List Int} {l : List Pl.Stage}, D.length ≠ l.length → Pl.okDurs D l = false
  | [], [], h => absurd rfl h
  | [], _ :: _, _ => rfl
  | _ :: _, [], _ => rfl
  | d :: D, x :: l, h => by
    show (_ && Pl.okDurs D l) = false
    rw [okDurs_len (D := D) (l := l) (fun e => h (by simp [e])), Bool.and_false]
set_option maxRecDepth 100000 in
set_option maxHeartbeats 1000000 in
theorem possibleDurations_any (D : List Int) (L : List Pl.Stage) (a b : Option Addr) (c d : Nat) (w : World) (hD : IntsA w a c D) (hL : StA w b d L) :
    Calls Try.prog 81 #[.slice a D.length c, .slice b L.length d] w fun e w' => e = .returned (.bool (Pl.okDurs D L)) ∧ Below w.heap.size w w' := by
  have l1 := hD.len
  have l2 := hL.len
  unfold maxLen at l1 l2
  have HD := Lib.hid hD; have HL := Lib.hid hL; clear hD hL
  by_cases hn : D.length = L.length
  · have hn' : ((D.length : Int) != (L.length : Int)) = false := by simp [hn]
    have HN := Lib.hid hn; clear hn
    go_enter Try.func81, Try.ntmps81
    go_wp2_with fail
    clear hn'
    go_loopw [5, 6, 14] (fun _ _ i wr => ∃ (k : Nat), k ≤ D.length ∧ i = .int .i64 (k : Int) ∧ Hid (Below w.heap.size w wr) ∧ Hid (Pl.okDurs (D.drop k) (L.drop k) = Pl.okDurs D L)) (fun _ _ i _ => D.length - (intOf i).toNat)
    case atStart => exact ⟨0, Nat.zero_le _, rfl, Lib.hid (Below.refl _ _), Lib.hid rfl⟩
    case round =>
      obtain ⟨k, hk, rfl, hb, hh⟩ := hrel
      by_cases hlt : k < D.length
      · have hlt2 : k < L.length := by have := HN.out; omega
        have HE := Lib.hid (okDurs_drop D L k hlt hlt2)
        obtain ⟨b1, o1, rfl, hb1, h1⟩ := (HD.out.below hb.out).2.2 k hlt
        obtain ⟨b2, o2, rfl, hb2, h2⟩ := (HL.out.below hb.out).2.2 k hlt2
        have c0 : wr.cell? ⟨b1, o1 + k, none⟩ = some (.int .i64 D[k]) := by simpa using h1 0 _ rfl
        obtain ⟨d0, d1, -⟩ := st_cells h2
        have i1 : (0 : Int) ≤ (k : Int) := by omega
        have i3 : (k : Int) < (L.length : Int) := by omega
        have i4 : ((k : Int)).toNat = k := by omega
        clear h1 h2
        generalize D[k] = x at *
        generalize L[k] = y at *
        have HW := Lib.hid (within_is x y.mn y.mx)
        generalize Pl.within x y.mn y.mx = B at *
        have HQ := Lib.hid hh.out; clear hh
        cases B
        · go_wp2_with fail
          go_quiet ((go_at_call 63; go_must (exact Calls.quiet_of_same (HW.out _))))
          go_wp2_with fail
          go_ret
          exact ⟨ret_bool (by rw [← HQ.out, HE.out]; rfl), below_drewN hb.out _⟩
        · go_wp2_with fail
          go_quiet ((go_at_call 63; go_must (exact Calls.quiet_of_same (HW.out _))))
          clear i1 i3 i4
          go_wp2_with fail
          go_roundw
          case rel => exact ⟨k + 1, by omega, by go_num, Lib.hid (below_drewN hb.out _), Lib.hid (by rw [← HQ.out, HE.out]; rfl)⟩
          case measure => simp [intOf]; omega
      · have HF := Lib.hid (show Pl.okDurs D L = true by
          rw [← hh.out, List.drop_of_length_le (by omega), List.drop_of_length_le (by have := HN.out; omega)]; rfl)
        go_wp2_with fail
        go_ret
        exact ⟨ret_bool HF.out.symm, hb.out⟩
  · have hn' : ((D.length : Int) != (L.length : Int)) = true := by rw [bne_iff_ne]; omega
    have HF := Lib.hid (okDurs_len hn); clear hn
    go_enter Try.func81, Try.ntmps81
    go_wp2_with fail
    go_ret
    exact ⟨ret_bool HF.out.symm, Below.refl _ _⟩
theorem okMvs_len {D : List Int} {p : Pl.Plan} (h : D.length ≠ p.st.length) : Pl.okMvs D p = false := by unfold Pl.okMvs; rw [decide_eq_false h]; rfl
theorem okMvs_eq {D : List Int} {p : Pl.Plan} (h : D.length = p.st.length) : Pl.okMvs D p = D.all (fun m => Pl.within m p.mmin p.mmax) := by unfold Pl.okMvs; rw [decide_eq_true h]; rfl
set_option maxRecDepth 100000 in
set_option maxHeartbeats 1000000 in
theorem possibleMoves_any (D : List Int) (q : PlanP) (a : Option Addr) (c : Nat) (w : World) (hD : IntsA w a c D) (hL : q.p.st.length ≤ maxLen) :
    Calls Try.prog 82 #[.slice a D.length c, q.val] w fun e w' => e = .returned (.bool (Pl.okMvs D q.p)) ∧ Below w.heap.size w w' := by
  have l1 := hD.len
  obtain ⟨⟨en, mi, ma, st, wn⟩, sa, sc, wa, wc⟩ := q
  simp only at hL
  unfold maxLen at l1 hL
  have HD := Lib.hid hD; clear hD
  have HG := Lib.hid (below_new w (planObj ⟨⟨en, mi, ma, st, wn⟩, sa, sc, wa, wc⟩))
  have HN := Lib.hid (heap_alloc_new w (planObj ⟨⟨en, mi, ma, st, wn⟩, sa, sc, wa, wc⟩))
  by_cases hn : D.length = st.length
  · have hn' : ((D.length : Int) != (st.length : Int)) = false := by simp [hn]
    have HE := Lib.hid (okMvs_eq (p := ⟨en, mi, ma, st, wn⟩) hn); clear hn
    simp only at HE
    go_enter Try.func82, Try.ntmps82
    go_wp2_with fail
    clear hn'
    go_loopw [6, 15] (fun _ i wr => ∃ (k : Nat), k ≤ D.length ∧ i = .int .i64 (k : Int) ∧ Hid (Below w.heap.size w wr ∧ wr.heap[w.heap.size]? = some (planObj ⟨⟨en, mi, ma, st, wn⟩, sa, sc, wa, wc⟩)) ∧ Hid ((D.take k).all (fun m => Pl.within m mi ma) = true)) (fun _ i _ => D.length - (intOf i).toNat)
    case atStart => exact ⟨0, Nat.zero_le _, rfl, Lib.hid ⟨HG.out, HN.out⟩, Lib.hid rfl⟩
    case round =>
      obtain ⟨k, hk, rfl, hb, hh⟩ := hrel
      by_cases hlt : k < D.length
      · obtain ⟨b1, o1, rfl, hb1, h1⟩ := (HD.out.below hb.out.1).2.2 k hlt
        have c0 : wr.cell? ⟨b1, o1 + k, none⟩ = some (.int .i64 D[k]) := by simpa using h1 0 _ rfl
        have d1 := box_cell hb.out.2 1 _ rfl
        have d2 := box_cell hb.out.2 2 _ rfl
        have HT := Lib.hid (show (D.take (k + 1)).all (fun m => Pl.within m mi ma) = (true && Pl.within D[k] mi ma) by rw [List.take_succ_eq_append_getElem hlt, List.all_append, hh.out]; simp)
        have HF := Lib.hid (show Pl.within D[k] mi ma = false → D.all (fun m => Pl.within m mi ma) = false from fun h => by
          rw [List.all_eq_false]; exact ⟨D[k], List.getElem_mem hlt, by simp [h]⟩)
        clear h1
        generalize D[k] = x at *
        have HW := Lib.hid (within_any x mi ma)
        generalize Pl.within x mi ma = B at *
        cases B
        · go_wp2_with fail
          refine (HW.out _).mono ?_; rintro _ w2 ⟨rfl, rfl⟩
          go_wp2_with fail
          go_ret
          exact ⟨ret_bool (by rw [HE.out, HF.out trivial]), hb.out.1⟩
        · go_wp2_with fail
          refine (HW.out _).mono ?_; rintro _ w2 ⟨rfl, rfl⟩
          go_wp2_with fail
          go_roundw
          case rel => exact ⟨k + 1, by omega, by go_num, hb, Lib.hid HT.out⟩
          case measure => simp [intOf]; omega
      · have HF := Lib.hid (show D.all (fun m => Pl.within m mi ma) = true by rw [← List.take_of_length_le (l := D) (i := k) (by omega)]; exact hh.out)
        go_wp2_with fail
        go_ret
        exact ⟨ret_bool (by rw [HE.out, HF.out]), hb.out.1⟩
  · have hn' : ((D.length : Int) != (st.length : Int)) = true := by rw [bne_iff_ne]; omega
    have HF := Lib.hid (okMvs_len (D := D) (p := ⟨en, mi, ma, st, wn⟩) hn); clear hn
    go_enter Try.func82, Try.ntmps82
    go_wp2_with fail
    go_ret
    exact ⟨ret_bool HF.out.symm, HG.out⟩
abbrev failV (s : Pl.Scen) : Value := .agg #[.int .i64 s.tool, .int .i64 s.at_]
set_option maxRecDepth 100000 in
theorem failureOf_any (q : ScenP) (w : World) : Calls Try.prog 83 #[q.val] w fun e w' => e = .returned (failV q.s) ∧ Below w.heap.size w w' := by
  obtain ⟨⟨du, mv, de, to_, at_⟩, da, dc, ma, mc⟩ := q
  go_enter Try.func83, Try.ntmps83
  go_wp2_with fail
  refine bodyPost_ret (v := failV ⟨du, mv, de, to_, at_⟩) (by simp [results, Try.results83, go_sem]) rfl ⟨rfl, ?_⟩
  exact below_step (below_new _ _) (below_new _ _)
set_option maxRecDepth 100000 in
theorem isPossible_any (s : Pl.Scen) (w : World) : Calls Try.prog 84 #[failV s] w fun e w' => e = .returned (.bool (Pl.okFail s.tool s.at_)) ∧ Below w.heap.size w w' := by
  obtain ⟨du, mv, de, t, x⟩ := s
  have HG := Lib.hid (below_new w (.cells #[.int .i64 t, .int .i64 x] 118))
  have H1 := Lib.hid (pisTool_any t)
  have H2 := Lib.hid (within_any x 0 1000000)
  unfold Pl.okFail
  simp only
  generalize Pl.within x 0 1000000 = B2 at *
  by_cases h : t = -1 ∧ x = 0
  · obtain ⟨rfl, rfl⟩ := h
    go_enter Try.func84, Try.ntmps84
    go_wp2_with fail
    go_ret
    exact ⟨ret_bool (by simp), HG.out⟩
  · have HE := Lib.hid (show (decide (t = -1) && decide (x = 0)) = false by rw [Bool.and_eq_false_iff]; simp; omega)
    rw [HE.out]
    by_cases ht : t = -1
    · subst ht
      have hx : ¬ x = 0 := fun e => h ⟨rfl, e⟩
      have HB1 := Lib.hid (show Pl.isTool (-1) = false by decide)
      rw [HB1.out] at H1
      rw [HB1.out]
      clear h HE
      go_enter Try.func84, Try.ntmps84
      go_wp2_with fail
      refine (H1.out _).mono ?_; rintro _ w2 ⟨rfl, rfl⟩
      go_wp2_with fail
      go_ret
      exact ⟨ret_bool (by simp), HG.out⟩
    · clear h HE
      generalize Pl.isTool t = B1 at *
      cases B1
      · go_enter Try.func84, Try.ntmps84
        go_wp2_with fail
        refine (H1.out _).mono ?_; rintro _ w2 ⟨rfl, rfl⟩
        go_wp2_with fail
        go_ret
        exact ⟨ret_bool (by simp), HG.out⟩
      · go_enter Try.func84, Try.ntmps84
        go_wp2_with fail
        refine (H1.out _).mono ?_; rintro _ w2 ⟨rfl, rfl⟩
        go_wp2_with fail
        refine (H2.out _).mono ?_; rintro _ w2 ⟨rfl, rfl⟩
        go_wp2_with fail
        go_ret
        exact ⟨ret_bool (by simp), HG.out⟩
abbrev possBox (q : PlanP) (r : ScenP) (w : World) : World := (w.alloc (planObj q)).alloc (scenObj r)
set_option maxRecDepth 100000 in
set_option maxHeartbeats 2000000 in
theorem Possible_any (q : PlanP) (r : ScenP) (w : World) (h : q.ok w) (hr : r.ok w) : Calls Try.prog 64 #[q.val, r.val] w fun e w' => e = .returned (.bool (Pl.possible q.p r.s)) ∧ Below w.heap.size w w' := by
  have HG := Lib.hid (below_step (below_new w (planObj q)) (below_new (w.alloc (planObj q)) (scenObj r)))
  have hn1 : (possBox q r w).heap[w.heap.size]? = some (planObj q) := box_below (heap_alloc_new _ _) (below_new _ _)
  have hn2 : (possBox q r w).heap[w.heap.size + 1]? = some (scenObj r) := by
    have := heap_alloc_new (w.alloc (planObj q)) (scenObj r)
    rw [show (w.alloc (planObj q)).heap.size = w.heap.size + 1 by simp] at this; exact this
  have N1 := Lib.hid hn1; have N2 := Lib.hid hn2; clear hn1 hn2
  have C1 := Lib.hid (fun v (hv : Below w.heap.size w v) => Valid_any q v (h.below hv))
  have C2 := Lib.hid (fun v (hv : Below w.heap.size w v) => possibleDurations_any r.s.dur q.p.st r.da q.sa r.dc q.sc v (hr.du.below hv) (h.st.below hv))
  have C3 := Lib.hid (fun v (hv : Below w.heap.size w v) => possibleMoves_any r.s.mv q r.ma r.mc v (hr.mv.below hv) h.st.len)
  have C4 := Lib.hid (within_any r.s.det q.p.mmin q.p.mmax)
  have C5 := Lib.hid (failureOf_any r)
  have C6 := Lib.hid (isPossible_any r.s)
  clear h hr
  unfold Pl.possible
  generalize Pl.valid q.p = B1 at *
  generalize Pl.okDurs r.s.dur q.p.st = B2 at *
  generalize Pl.okMvs r.s.mv q.p = B3 at *
  generalize Pl.within r.s.det q.p.mmin q.p.mmax = B4 at *
  generalize Pl.okFail r.s.tool r.s.at_ = B5 at *
  obtain ⟨⟨en, mi, ma, st, wn⟩, sa, sc, wa, wc⟩ := q
  obtain ⟨⟨du, mv, de, to_, at_⟩, da, dc, xa, xc⟩ := r
  dsimp only [planObj, scenObj, possBox] at N1 N2 HG
  go_enter Try.func64, Try.ntmps64
  go_wp2_with fail
  generalize (w.alloc (.cells #[.int .i64 en, .int .i64 mi, .int .i64 ma, .slice sa st.length sc, .slice wa wn.length wc] 64)).alloc (.cells #[.slice da du.length dc, .slice xa mv.length xc, .int .i64 de, .int .i64 to_, .int .i64 at_] 67) = W at *
  refine (C1.out _ HG.out).mono ?_; rintro _ w1 ⟨rfl, g1⟩
  have P1 := Lib.hid (box_below N1.out g1); have Q1 := Lib.hid (box_below N2.out g1); have G1 := Lib.hid (below_step HG.out g1)
  clear g1 N1 N2 HG
  cases B1
  · go_wp2_with fail
    go_ret
    exact ⟨ret_bool (by simp), G1.out⟩
  have c0 := box_cell Q1.out 0 (.slice da du.length dc) rfl
  have c1 := box_cell P1.out 3 (.slice sa st.length sc) rfl
  go_wp2_with fail
  refine (C2.out _ G1.out).mono ?_; rintro _ w2 ⟨rfl, g2⟩
  have P2 := Lib.hid (box_below P1.out g2); have Q2 := Lib.hid (box_below Q1.out g2); have G2 := Lib.hid (below_step G1.out g2)
  clear g2 c0 c1 P1 Q1 G1
  cases B2
  · go_wp2_with fail
    go_ret
    exact ⟨ret_bool (by simp), G2.out⟩
  have c0 := box_cell Q2.out 1 (.slice xa mv.length xc) rfl
  have d0 := box_cell P2.out 0 (.int .i64 en) rfl
  have d1 := box_cell P2.out 1 (.int .i64 mi) rfl
  have d2 := box_cell P2.out 2 (.int .i64 ma) rfl
  have d3 := box_cell P2.out 3 (.slice sa st.length sc) rfl
  have d4 := box_cell P2.out 4 (.slice wa wn.length wc) rfl
  go_wp2_with fail
  refine (C3.out _ G2.out).mono ?_; rintro _ w3 ⟨rfl, g3⟩
  have P3 := Lib.hid (box_below P2.out g3); have Q3 := Lib.hid (box_below Q2.out g3); have G3 := Lib.hid (below_step G2.out g3)
  clear g3 c0 d0 d1 d2 d3 d4 P2 Q2 G2
  cases B3
  · go_wp2_with fail
    go_ret
    exact ⟨ret_bool (by simp), G3.out⟩
  have d1 := box_cell P3.out 1 (.int .i64 mi) rfl
  have d2 := box_cell P3.out 2 (.int .i64 ma) rfl
  have c0 := box_cell Q3.out 0 (.slice da du.length dc) rfl
  have c1 := box_cell Q3.out 1 (.slice xa mv.length xc) rfl
  have c2 := box_cell Q3.out 2 (.int .i64 de) rfl
  have c3 := box_cell Q3.out 3 (.int .i64 to_) rfl
  have c4 := box_cell Q3.out 4 (.int .i64 at_) rfl
  go_wp2_with fail
  refine (C4.out _).mono ?_; rintro _ w4 ⟨rfl, rfl⟩
  cases B4
  · go_wp2_with fail
    go_ret
    exact ⟨ret_bool (by simp), G3.out⟩
  go_wp2_with fail
  refine (C5.out _).mono ?_; rintro _ w4 ⟨rfl, g4⟩
  have G4 := Lib.hid (below_step G3.out g4); clear g4
  go_wp2_with fail
  refine (C6.out _).mono ?_; rintro _ w5 ⟨rfl, g5⟩
  have G5 := Lib.hid (below_step G4.out g5); clear g5
  go_wp2_with fail
  go_ret
  exact ⟨ret_bool (by simp), G5.out⟩
end Go.Proofs.Ytjdhjlhcdpekbaa.Pe
