/-
  Contract of the reader's readMove.
-/
import Derived.Test.YtcaclijkkbhfhaaGreatDoorHold
namespace Go.Proofs.YtcaclijkkbhfhaaGreatDoor
open Go.RowKit Go.Shelf

/-- The condition of the reading methods. -/
structure In (a : Addr) (B R : Nat) (c : Rd) (q : FlowP) (w : World) : Prop where
  ok : RdOk a R c w
  holds : Holds B R c q w
  hB : 7 ≤ B
  pl : q.P.length ≤ 40
  wl : q.W.length ≤ 20
theorem In.lt {a : Addr} {B R : Nat} {c : Rd} {q : FlowP} {w : World} (h : In a B R c q w) : B ≤ w.heap.size := Nat.le_trans h.holds.ge (Nat.le_of_lt h.ok.at_.lt)
theorem In.only {a : Addr} {B R : Nat} {c c' : Rd} {q : FlowP} {w w' : World} (h : In a B R c q w) (ho : Only R w w') (h' : RdAt w' R c') (hl : (c'.r.getD []).length ≤ 1000000) (e1 : c'.least = c.least) (e2 : c'.most = c.most) (e3 : c'.sv = c.sv) (e4 : c'.wv = c.wv) : In a B R c' q w' :=
  ⟨h.ok.only ho h' hl, h.holds.only ho h' e1 e2 e3 e4, h.hB, h.pl, h.wl⟩
theorem In.below {a : Addr} {B R : Nat} {c : Rd} {q : FlowP} {w w' : World} (h : In a B R c q w) (hb : Below w.heap.size w w') : In a B R c q w' := ⟨h.ok.below hb, h.holds.below hb, h.hB, h.pl, h.wl⟩
/-- What a reading method answers: the flow with what the line says, or the error. -/
def RdPost (a : Addr) (B R : Nat) (c : Rd) (res : Option (Fl.Flow × Fl.Rest)) (w : World) (e : Ending) (w' : World) : Prop :=
  match res with
  | none => e = raised a ∧ Fr B R w w' ∧ ∃ c', RdAt w' R c' ∧ c'.line = c.line
  | some (f, r) => e = .returned (.tuple #[]) ∧ Fr B R w w' ∧ ∃ c' q', In a B R c' q' w' ∧ q'.f = f ∧ c'.r = r ∧ c'.line = c.line ∧ c'.last = c.last

theorem Holds.moves {B R : Nat} {c c' : Rd} {q : FlowP} {w w' : World} (h : Holds B R c q w) (ho : Only R w w') (h' : RdAt w' R c') (e3 : c'.sv = c.sv) (e4 : c'.wv = c.wv) : Holds B R c' { q with least := c'.least, most := c'.most } w' := by
  have hr : ∀ e : TypeId, 76 ≠ e → ∀ k, (some R : Option Nat) = some k → ∃ cs e', w.heap[k]? = some (.cells cs e') ∧ e' ≠ e := fun e he k hk => by injection hk with hk; subst hk; exact ⟨_, _, h.at_, he⟩
  exact ⟨h', h.ge, rfl, rfl, e3.trans h.sv, e4.trans h.wv, own_kept h.srow ho (hr _ (by decide)), own_kept h.wrow ho (hr _ (by decide)),
    fun p hp => ⟨(h.lists p hp).1.kept ho (hr _ (by decide)), (h.lists p hp).2.kept ho (hr _ (by decide))⟩⟩
set_option maxRecDepth 100000 in
set_option maxHeartbeats 1000000 in
theorem readMove_any (a : Addr) (B R : Nat) (c : Rd) (q : FlowP) (w : World) (h : In a B R c q w) :
    Calls Tryz.prog 91 #[.pointer (some ⟨R, 0, none⟩)] w (RdPost a B R c (Fl.readMove q.f c.r) w) := by
  have hE : Fl.readMove q.f c.r = match c.r with | none => none | some s => (spanOf (Lib.cut s [32]).1).bind fun p => if Fl.vMoves p.1 p.2 = true then some ({ q.f with least := p.1, most := p.2 }, tailR s) else none := by
    unfold Fl.readMove; rw [two_spanOf]; cases c.r <;> rfl
  have hS := rSpan_any c R a w h.ok
  have H := Lib.hid h
  have hB := h.lt
  have hBR := h.holds.ge
  have HN := Lib.hid (fun w ht => require_no w a ht)
  rw [hE]
  cases hr : c.r with
  | none =>
    rw [hr] at hS
    have HS := Lib.hid hS
    clear h hr hE hS
    simp only
    unfold Fails RdPost at *
    go_enter Tryz.func91, Tryz.ntmps91
    go_wp2_with fail
    refine HS.out.mono ?_; rintro e w1 ⟨rfl, o1, c', r1, l1⟩
    go_wp2_with fail
    exact ⟨rfl, rfl, Fr.only o1 hB hBR, c', r1, l1⟩
  | some s =>
    rw [hr] at hS
    simp only at hS ⊢
    have hl := h.ok.len
    rw [hr] at hl
    have HL := Lib.hid (show ((tailR s).getD []).length ≤ 1000000 from Nat.le_trans (tailR_len s) hl)
    cases hsp : spanOf (Lib.cut s [32]).1 with
    | none =>
      rw [hsp] at hS
      have HS := Lib.hid hS
      clear h hr hE hS hsp hl
      simp only [Option.bind_none]
      unfold Fails RdPost at *
      go_enter Tryz.func91, Tryz.ntmps91
      go_wp2_with fail
      refine HS.out.mono ?_; rintro e w1 ⟨rfl, o1, c', r1, l1⟩
      go_wp2_with fail
      exact ⟨rfl, rfl, Fr.only o1 hB hBR, c', r1, l1⟩
    | some p =>
      obtain ⟨x, y⟩ := p
      rw [hsp] at hS
      simp only at hS
      have HS := Lib.hid hS
      simp only [Option.bind_some]
      clear h hr hE hS hsp hl
      have K1 := Lib.hid (fun w => validMoves_any x y c.sv c.wv w)
      have HST : Hid (∀ w1, RdAt w1 R { c with r := tailR s } → RdAt ((w1.setCell ⟨R, 0, none⟩ (.int .i64 x)).setCell ⟨R, 1, none⟩ (.int .i64 y)) R { c with r := tailR s, least := x, most := y }) := Lib.hid fun w1 h1 => by
        unfold RdAt; rw [block_set (block_set h1 _) _]; rfl
      unfold Reads at HS
      by_cases hv : Fl.vMoves x y = true
      · rw [if_pos hv]
        have HV := Lib.hid hv; clear hv
        unfold RdPost
        simp only
        go_enter Tryz.func91, Tryz.ntmps91
        go_wp2_with fail
        refine HS.out.mono ?_; rintro e w1 ⟨rfl, o1, r1⟩
        have O1 := Lib.hid o1; have R1 := Lib.hid r1; clear o1 r1
        have f0 := R1.out.fz 0; have f1 := R1.out.fz 1
        have k2 := R1.out.cell 2 _ rfl; have k3 := R1.out.cell 3 _ rfl
        have k0 := R1.out.cell 0 _ rfl; have k1 := R1.out.cell 1 _ rfl
        have R2 := Lib.hid (HST.out _ R1.out)
        have O2 := Lib.hid (O1.out.trans (((Only.refl R w1).setCell 0 (.int .i64 x)).setCell 1 (.int .i64 y)))
        go_wp2_with fail
        clear f0 f1 k0 k1 k2 k3
        generalize (w1.setCell ⟨R, 0, none⟩ (.int .i64 x)).setCell ⟨R, 1, none⟩ (.int .i64 y) = w2 at *
        refine (K1.out _).mono ?_; rintro e w3 ⟨rfl, g3⟩
        have R3 := Lib.hid (R2.out.below g3); have O3 := Lib.hid (O2.out.step g3)
        clear g3
        rw [HV.out]
        go_wp2_with fail
        refine (require_yes _).mono ?_; rintro e w4 ⟨rfl, rfl⟩
        go_wp2_with fail
        go_end0
        refine ⟨rfl, Fr.only O3.out hB hBR, _, { q with least := x, most := y }, ⟨H.out.ok.only O3.out R3.out HL.out, ?_, H.out.hB, H.out.pl, H.out.wl⟩, rfl, rfl, rfl, rfl⟩
        exact H.out.holds.moves (c' := { c with r := tailR s, least := x, most := y }) O3.out R3.out rfl rfl
      · rw [if_neg hv]
        have HV := Lib.hid (show Fl.vMoves x y = false by simpa using hv); clear hv
        unfold RdPost
        simp only
        go_enter Tryz.func91, Tryz.ntmps91
        go_wp2_with fail
        refine HS.out.mono ?_; rintro e w1 ⟨rfl, o1, r1⟩
        have O1 := Lib.hid o1; have R1 := Lib.hid r1; clear o1 r1
        have f0 := R1.out.fz 0; have f1 := R1.out.fz 1
        have k2 := R1.out.cell 2 _ rfl; have k3 := R1.out.cell 3 _ rfl
        have k0 := R1.out.cell 0 _ rfl; have k1 := R1.out.cell 1 _ rfl
        have R2 := Lib.hid (HST.out _ R1.out)
        have O2 := Lib.hid (O1.out.trans (((Only.refl R w1).setCell 0 (.int .i64 x)).setCell 1 (.int .i64 y)))
        go_wp2_with fail
        clear f0 f1 k0 k1 k2 k3
        generalize (w1.setCell ⟨R, 0, none⟩ (.int .i64 x)).setCell ⟨R, 1, none⟩ (.int .i64 y) = w2 at *
        refine (K1.out _).mono ?_; rintro e w3 ⟨rfl, g3⟩
        have R3 := Lib.hid (R2.out.below g3); have O3 := Lib.hid (O2.out.step g3)
        clear g3
        rw [HV.out]
        go_wp2_with fail
        refine (HN.out _ (H.out.ok.tab.grown H.out.ok.ge O3.out)).mono ?_; rintro e w4 ⟨rfl, rfl⟩
        go_wp2_with fail
        exact ⟨rfl, rfl, Fr.only O3.out hB hBR, _, R3.out, rfl⟩
end Go.Proofs.YtcaclijkkbhfhaaGreatDoor
