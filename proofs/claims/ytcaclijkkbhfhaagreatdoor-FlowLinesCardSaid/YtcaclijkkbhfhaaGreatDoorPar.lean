/-
  Contracts of attempt (at Parse's closure) and Parse: a text's flow, or the number of a line.
-/
import Derived.Test.YtcaclijkkbhfhaaGreatDoorRText
import Derived.Tactics2
import Derived.Defers
import Derived.Recover
import Derived.Laws.Pointers
import Derived.LaidEql
namespace Go.Proofs.YtcaclijkkbhfhaaGreatDoor
open Go.RowKit Go.Shelf

theorem catch_idle (p : Addr) (x : Bool) (w : World) (hc : w.cell? p = some (.bool x)) (hz : w.frozen? p = false) :
    CallsD Tryz.prog 60 #[.pointer (some p)] .returning w fun e u' w' => e = .returned (.tuple #[]) ∧ u' = .returning ∧ w' = w.setCell p (.bool true) := by
  refine callsD_of_wpS Tryz.func60 rfl fun c₀ cs hu => ?_
  apply wpS_region
  simp [wpOpsS, go_sem, recoverD, hu, Tryz.ntmps60, hc, hz]
  exact ⟨rfl, .returning, by cases c₀; simp_all, _, results_none rfl _ _ _, rfl, rfl, rfl⟩
theorem catch_panicking (p a : Addr) (x : Bool) (older : List PanicEntry) (w : World) (hc : w.cell? p = some (.bool x)) (hz : w.frozen? p = false) :
    CallsD Tryz.prog 60 #[.pointer (some p)] (.panicking ({ v := errV a, recovered := false } :: older)) w fun e u' w' =>
      e = .returned (.tuple #[]) ∧ u' = .panicking ({ v := errV a, recovered := true } :: older) ∧ w' = w.setCell p (.bool false) := by
  refine callsD_of_wpS Tryz.func60 rfl fun c₀ cs hu => ?_
  apply wpS_region
  simp [wpOpsS, go_sem, recoverD, hu, Tryz.ntmps60, hc, hz]
  exact ⟨rfl, _, rfl, _, results_none rfl _ _ _, rfl, rfl, rfl⟩

/-- Another block, of a kind that the reader does not hold, is written. -/
theorem In.other {a : Addr} {B R : Nat} {c : Rd} {q : FlowP} {w : World} (h : In a B R c q w) {b o : Nat} {cs : Array Value} {e : TypeId} (hb : w.heap[b]? = some (.cells cs e)) (he : e ≠ 76 ∧ e ≠ 55 ∧ e ≠ 58 ∧ e ≠ 3) (hB : B ≤ b) (u : Value) :
    In a B R c q (w.setCell ⟨b, o, none⟩ u) := by
  have hg := grown_set (w := w) b o u
  have hr : ∀ e' : TypeId, e ≠ e' → ∀ k, (some b : Option Nat) = some k → ∃ cs e'', w.heap[k]? = some (.cells cs e'') ∧ e'' ≠ e' := fun e' he' k hk => by injection hk with hk; subst hk; exact ⟨_, _, hb, he'⟩
  have hne : R ≠ b := by
    rintro rfl
    have h5 := h.ok.at_
    unfold RdAt at h5; rw [h5] at hb; injection hb with hb; injection hb with _ hb; exact he.1 hb.symm
  have hat : RdAt (w.setCell ⟨b, o, none⟩ u) R c := by
    unfold RdAt; rw [Below.heap_setCell _ _ _ _ hne]; exact h.ok.at_
  exact ⟨⟨h.ok.tab.grown (R := b) (by have := h.hB; omega) hg, hat, h.ok.ge, h.ok.len⟩,
    ⟨hat, h.holds.ge, h.holds.mn, h.holds.mx, h.holds.sv, h.holds.wv, own_kept h.holds.srow hg (hr _ he.2.1), own_kept h.holds.wrow hg (hr _ he.2.2.1), fun p hp => ⟨(h.holds.lists p hp).1.kept hg (hr _ he.2.2.2), (h.holds.lists p hp).2.kept hg (hr _ he.2.2.2)⟩⟩, h.hB, h.pl, h.wl⟩
/-- A block that is new since W is written. -/
theorem Fr.fresh {B R : Nat} {W w : World} (h : Fr B R W w) {b o : Nat} (hb : W.heap.size ≤ b) (hB : B ≤ b) (u : Value) : Fr B R W (w.setCell ⟨b, o, none⟩ u) := by
  refine ⟨h.below.trans ((Below.refl _ _).setCell hB _), fun k o' hk ho hn => ?_⟩
  rw [Below.heap_setCell _ _ _ _ (by have := lt_of_block ho; show k ≠ b; omega)]
  exact h.rest k o' hk ho hn
theorem RdAt.other {w : World} {R : Nat} {c : Rd} (h : RdAt w R c) {b o : Nat} (hne : R ≠ b) (u : Value) : RdAt (w.setCell ⟨b, o, none⟩ u) R c := by
  unfold RdAt; rw [Below.heap_setCell _ _ _ _ hne]; exact h

set_option maxRecDepth 100000 in
theorem Parse1_any (a : Addr) (B R V S : Nat) (c : Rd) (q : FlowP) (s0 : List UInt8) (W : World) (h : In a B R c q W) (hl : s0.length ≤ 900000) (h0 : c.line = 0) (h1 : c.last = []) (h2 : q.f = Fl.noFlow)
    (hV : W.cell? ⟨V, 0, none⟩ = some (.pointer (some ⟨R, 0, none⟩))) (hS : W.cell? ⟨S, 0, none⟩ = some (.string (bs s0))) :
    Calls Tryz.prog 43 #[.pointer (some ⟨V, 0, none⟩), .pointer (some ⟨S, 0, none⟩)] W (TextPost a B R (Fl.parse s0) W) := by
  have HR := Lib.hid (readText_any a B R c q s0 W h hl h0 h1 h2)
  clear h hl h0 h1 h2
  rcases hp : Fl.parse s0 with n | f
  · rw [hp] at HR
    unfold TextPost at *
    clear hp
    go_enter Tryz.func43, Tryz.ntmps43
    go_wp2_with fail
    refine HR.out.mono ?_; rintro e w1 ⟨rfl, f1, c1, r1, l1⟩
    go_wp2_with fail
    exact ⟨rfl, rfl, f1, c1, r1, l1⟩
  · rw [hp] at HR
    unfold TextPost at *
    clear hp
    go_enter Tryz.func43, Tryz.ntmps43
    go_wp2_with fail
    refine HR.out.mono ?_; rintro e w1 ⟨rfl, f1, c1, q1, i1, e1⟩
    have F := Lib.hid f1; have I := Lib.hid i1; have E := Lib.hid e1; clear f1 i1 e1
    go_wp2_with fail
    go_end0
    exact ⟨rfl, F.out, c1, q1, I.out, E.out⟩

/-- What attempt answers of Parse's closure. -/
def TryPost (B R : Nat) (a : Addr) (res : Except Nat Fl.Flow) (w : World) (e : Ending) (w' : World) : Prop :=
  match res with
  | .error n => e = .returned (.bool false) ∧ Fr B R w w' ∧ ∃ c', RdAt w' R c' ∧ c'.line = n
  | .ok f => e = .returned (.bool true) ∧ Fr B R w w' ∧ ∃ c' q', In a B R c' q' w' ∧ q'.f = f
set_option maxRecDepth 100000 in
set_option maxHeartbeats 1000000 in
theorem attempt_any (a : Addr) (B R V S : Nat) (c : Rd) (q : FlowP) (s0 : List UInt8) (w : World) (h : In a B R c q w) (hl : s0.length ≤ 900000) (h0 : c.line = 0) (h1 : c.last = []) (h2 : q.f = Fl.noFlow)
    (hV : w.cell? ⟨V, 0, none⟩ = some (.pointer (some ⟨R, 0, none⟩))) (hS : w.cell? ⟨S, 0, none⟩ = some (.string (bs s0))) :
    Calls Tryz.prog 42 #[.func (.func 43) #[] #[.pointer (some ⟨V, 0, none⟩), .pointer (some ⟨S, 0, none⟩)]] w (TryPost B R a (Fl.parse s0) w) := by
  have hmf : ∀ (fn : Fn) (first cap : Array Value) (w : World), (Instr.makeFunc fn first cap).run Tryz.prog w = .ok (.func fn first cap) w := fun _ _ _ _ => rfl
  have hn := below_new w (.cells #[.bool false] 4)
  have HC := Lib.hid (Parse1_any a B R V S c q s0 (w.alloc (.cells #[.bool false] 4)) (h.below hn) hl h0 h1 h2 (cell_below hn hV) (cell_below hn hS))
  have HB := Lib.hid h.lt; have HR := Lib.hid h.ok.at_.lt
  have hbn : (w.alloc (.cells #[.bool false] 4)).heap[w.heap.size]? = some (.cells #[.bool false] 4) := heap_alloc_new _ _
  have HBN := Lib.hid hbn
  have FN := Lib.hid (Fr.ofBelow (R := R) hn h.lt)
  clear h hl h0 h1 h2 hV hS hn hbn
  rcases hp : Fl.parse s0 with n | f
  · rw [hp] at HC
    unfold TextPost TryPost at *
    clear hp
    go_enter_defers Tryz.func42, Tryz.ntmps42
    go_wp2_with fail
    refine HC.out.mono ?_
    rintro e w1 ⟨rfl, f1, c1, r1, l1⟩
    have b1 := f1.rest w.heap.size _ (by have := HR.out; omega) HBN.out (fun cs => ⟨by intro e0; injection e0 with _ e1; exact absurd e1 (by decide), by intro e0; injection e0 with _ e1; exact absurd e1 (by decide)⟩)
    go_wp2_with fail
    refine leaves_cons (f := 60) (args := #[.pointer (some ⟨w.heap.size, 0, none⟩)]) (by simp) (by simp [go_sem]) ?_
    refine (catch_panicking _ a false [] _ (box_cell b1 0 _ rfl) (box_fz b1 0)).mono ?_
    rintro e u' w'' ⟨rfl, rfl, rfl⟩
    have hF : Fr B R w (w1.setCell ⟨w.heap.size, 0, none⟩ (.bool false)) := (FN.out.trans f1).fresh (Nat.le_refl _) HB.out _
    have hA := r1.other (b := w.heap.size) (o := 0) (by have := HR.out; omega) (.bool false)
    have k1 := box_cell (block_set b1 (o := 0) (.bool false)) 0 _ rfl
    have hE : ∃ c', RdAt (w1.setCell ⟨w.heap.size, 0, none⟩ (.bool false)) R c' ∧ c'.line = n := ⟨c1, hA, l1⟩
    simp [Leaves, settle, results, Tryz.results42, go_sem, k1, hF, hE]
  · rw [hp] at HC
    unfold TextPost TryPost at *
    clear hp
    go_enter_defers Tryz.func42, Tryz.ntmps42
    go_wp2_with fail
    refine HC.out.mono ?_
    rintro e w1 ⟨rfl, f1, c1, q1, i1, e1⟩
    have b1 := f1.rest w.heap.size _ (by have := HR.out; omega) HBN.out (fun cs => ⟨by intro e0; injection e0 with _ e1; exact absurd e1 (by decide), by intro e0; injection e0 with _ e1; exact absurd e1 (by decide)⟩)
    have hF : Fr B R w (w1.setCell ⟨w.heap.size, 0, none⟩ (.bool true)) := (FN.out.trans f1).fresh (Nat.le_refl _) HB.out _
    have k1 := box_cell (block_set b1 (o := 0) (.bool true)) 0 _ rfl
    have hE : ∃ c' q', In a B R c' q' (w1.setCell ⟨w.heap.size, 0, none⟩ (.bool true)) ∧ q'.f = f := ⟨c1, q1, i1.other b1 (by decide) HB.out _, e1⟩
    have KB := Lib.hid b1; have K1 := Lib.hid k1; have HF := Lib.hid hF; have HE := Lib.hid hE
    clear f1 i1 e1 b1 hF k1 hE
    go_wp2_with fail
    refine leaves_cons (f := 60) (args := #[.pointer (some ⟨w.heap.size, 0, none⟩)]) (by simp) (by simp [go_sem]) ?_
    refine (catch_idle _ false _ (box_cell KB.out 0 _ rfl) (box_fz KB.out 0)).mono ?_
    rintro e u' w'' ⟨rfl, rfl, rfl⟩
    have k1 := K1.out; have hF := HF.out; have hE := HE.out
    simp [Leaves, settle, results, Tryz.results42, go_sem, k1, hF, hE]
end Go.Proofs.YtcaclijkkbhfhaaGreatDoor
