/-
  Plans in memory: rows of records of integers; the value of a plan, of a scenario.
  Contracts of package plan's small functions.
  Contracts of cmp.Compare and cmp.Or at integers, and of compareWindows.
-/
import Derived.Test.YtihohjgjklcnlaaDoorQBb
import Derived.Test.YtihohjgjklcnlaaDoorQBa
import Derived.StillTailTactics
namespace Go.Proofs.YtihohjgjklcnlaaDoor
open Go.RowKit

/-! ### rows of records -/
/-- A slice of records, each of k cells. -/
def RowA {α : Type} (f : α → List Value) (k : Nat) (w : World) (a : Option Addr) (c : Nat) (L : List α) : Prop :=
  L.length ≤ c ∧ c ≤ maxLen ∧ ∀ i (h : i < L.length), ∃ b off : Nat, a = some ⟨b, off, none⟩ ∧ b < w.heap.size ∧ ∀ (j : Nat) (v : Value), (f L[i])[j]? = some v → w.cell? ⟨b, off + i * k + j, none⟩ = some v
theorem RowA.below {α : Type} {f : α → List Value} {k : Nat} {w w' : World} {a : Option Addr} {c : Nat} {L : List α} (h : RowA f k w a c L) (hb : Below w.heap.size w w') : RowA f k w' a c L := by
  refine ⟨h.1, h.2.1, fun i hi => ?_⟩
  obtain ⟨b, off, rfl, h1, h2⟩ := h.2.2 i hi
  exact ⟨b, off, rfl, Nat.lt_of_lt_of_le h1 hb.size, fun j v hv => cell_below hb (h2 j v hv)⟩
theorem RowA.ch {α : Type} {f : α → List Value} {k : Nat} {S : Nat → Prop} {w w' : World} {a : Option Addr} {c : Nat} {L : List α} (h : RowA f k w a c L) (hb : Ch S w w') (hS : ∀ x, a = some x → ¬ S x.block) : RowA f k w' a c L := by
  refine ⟨h.1, h.2.1, fun i hi => ?_⟩
  obtain ⟨b, off, rfl, h1, h2⟩ := h.2.2 i hi
  have hk := hb.block b h1 (hS _ rfl)
  exact ⟨b, off, rfl, Nat.lt_of_lt_of_le h1 hb.size, fun j v hv => (World.cell?_of_block (a := ⟨b, _, none⟩) hk).trans (h2 j v hv)⟩
theorem RowA.of_heap {α : Type} {f : α → List Value} {k : Nat} {w v : World} {a : Option Addr} {c : Nat} {L : List α} (h : RowA f k w a c L) (e : v.heap = w.heap) : RowA f k v a c L := by
  unfold RowA World.cell? at *; rw [e]; exact h
theorem RowA.nil {α : Type} (f : α → List Value) (k : Nat) (w : World) : RowA f k w none 0 ([] : List α) := ⟨Nat.le_refl _, by decide, fun i hi => by cases hi⟩
theorem RowA.at {α : Type} {f : α → List Value} {k : Nat} {w : World} {a : Option Addr} {c : Nat} {L : List α} (h : RowA f k w a c L) (h0 : 0 < L.length) : ∃ b off : Nat, a = some ⟨b, off, none⟩ ∧ b < w.heap.size ∧
    ∀ i (h : i < L.length) (j : Nat) (v : Value), (f L[i])[j]? = some v → w.cell? ⟨b, off + i * k + j, none⟩ = some v := by
  obtain ⟨b, off, rfl, h1, -⟩ := h.2.2 0 h0
  refine ⟨b, off, rfl, h1, fun i hi => ?_⟩
  obtain ⟨b', off', e, _, h2⟩ := h.2.2 i hi
  injection e with e; injection e with e1 e2; subst e1; subst e2; exact h2
theorem RowA.len {α : Type} {f : α → List Value} {k : Nat} {w : World} {a : Option Addr} {c : Nat} {L : List α} (h : RowA f k w a c L) : L.length ≤ maxLen := Nat.le_trans h.1 h.2.1
/-- A shorter slice of the same row. -/
theorem RowA.take {α : Type} {f : α → List Value} {k : Nat} {w : World} {a : Option Addr} {c : Nat} {L : List α} (h : RowA f k w a c L) (n : Nat) : RowA f k w a c (L.take n) := by
  refine ⟨Nat.le_trans (by simp; omega) h.1, h.2.1, fun i hi => ?_⟩
  have hi' : i < L.length := by simp at hi; omega
  obtain ⟨b, off, rfl, h1, h2⟩ := h.2.2 i hi'
  exact ⟨b, off, rfl, h1, fun j v hv => h2 j v (by rw [List.getElem_take] at hv; exact hv)⟩
/-- A row of records that the call has made. -/
def RowO {α : Type} (f : α → List Value) (t : TypeId) (k : Nat) (w : World) (B : Nat) (v : Value) (L : List α) : Prop := w.ownsRow B t k v L.length (L.flatMap f)
theorem RowO.nil {α : Type} (f : α → List Value) (t : TypeId) (k : Nat) (w : World) (B : Nat) : RowO f t k w B (.slice none 0 0) ([] : List α) := World.ownsRow_nil _ _ _ _
theorem RowO.below {α : Type} {f : α → List Value} {t : TypeId} {k : Nat} {w w' : World} {B : Nat} {v : Value} {L : List α} (h : RowO f t k w B v L) (hb : Below w.heap.size w w') : RowO f t k w' B v L := own_below h hb
theorem RowO.mono {α : Type} {f : α → List Value} {t : TypeId} {k : Nat} {w : World} {B B' : Nat} {v : Value} {L : List α} (h : RowO f t k w B v L) (hB : B' ≤ B) : RowO f t k w B' v L := by
  obtain ⟨h1, h2 | ⟨g, cap, cur, rfl, h2, h3, h4⟩⟩ := h
  · exact ⟨h1, .inl h2⟩
  · exact ⟨h1, .inr ⟨g, cap, cur, rfl, Nat.le_trans hB h2, h3, h4⟩⟩
theorem RowO.snoc {α : Type} {f : α → List Value} {t : TypeId} {k : Nat} {w : World} {B : Nat} {v : Value} {L : List α} {x : α} (h : w.ownsRow B t k v (L.length + 1) (L.flatMap f ++ f x)) : RowO f t k w B v (L ++ [x]) := by
  unfold RowO; rw [List.length_append, List.flatMap_append]; simpa using h
theorem RowO.arg {α : Type} {f : α → List Value} {t : TypeId} {k : Nat} (hf : ∀ x, (f x).length = k) {w : World} {B : Nat} {v : Value} {L : List α} (h : RowO f t k w B v L) :
    ∃ a c, v = .slice a L.length c ∧ RowA f k w a c L ∧ (∀ x, a = some x → v.ownBlock = some x.block) := by
  obtain ⟨a, c, rfl, h1, h2, h3⟩ := own_slice h
  refine ⟨a, c, rfl, ⟨h1, h2, fun i hi => ?_⟩, fun x hx => by subst hx; rfl⟩
  obtain ⟨g, rfl, hg, hc⟩ := h3 (by omega)
  refine ⟨g, 0, rfl, hg, fun j v hv => ?_⟩
  have hj : j < k := by rw [← hf L[i]]; exact (List.getElem?_eq_some_iff.1 hv).1
  have := hc (i * k + j) v (by rw [flat_at f k hf L i j hi hj]; exact hv)
  rwa [show 0 + (i * k + j) = 0 + i * k + j by omega] at this

/-! ### plans, scenarios -/
def stageCells (x : Pl.Stage) : List Value := [.int .i64 x.mn, .int .i64 x.mx, .int .i64 x.m.tool, .int .i64 x.m.start, .int .i64 x.s.tool, .int .i64 x.s.start]
def winCells (x : Pl.Win) : List Value := [.int .i64 x.f, .int .i64 x.t, .int .i64 x.lim]
def intCells (d : Int) : List Value := [.int .i64 d]
def visitCells (v : Pl.Visit) : List Value := [.int .i64 v.step, .int .i64 v.tool, .int .i64 v.start, .int .i64 v.fin]
def pbCells (v : Pl.Bk) : List Value := [.int .i64 v.tool, .int .i64 v.s, .int .i64 v.e, .int .i64 v.o]
abbrev slotV (o : Pl.Slot) : Value := .agg #[.int .i64 o.tool, .int .i64 o.start]
abbrev stageV (x : Pl.Stage) : Value := .agg #[.int .i64 x.mn, .int .i64 x.mx, .int .i64 x.m.tool, .int .i64 x.m.start, .int .i64 x.s.tool, .int .i64 x.s.start]
abbrev winV (x : Pl.Win) : Value := .agg #[.int .i64 x.f, .int .i64 x.t, .int .i64 x.lim]
abbrev StA := RowA stageCells 6
abbrev WnA := RowA winCells 3
abbrev IntsA := RowA intCells 1
abbrev VsA := RowA visitCells 4
abbrev StO := RowO stageCells 45 6
abbrev WnO := RowO winCells 49 3
abbrev IntsO := RowO intCells 3 1
abbrev VsO := RowO visitCells 47 4
abbrev PbO := RowO pbCells 73 4
theorem stage_len (x : Pl.Stage) : (stageCells x).length = 6 := rfl
theorem win_len (x : Pl.Win) : (winCells x).length = 3 := rfl
theorem int_len (x : Int) : (intCells x).length = 1 := rfl
theorem visit_len (x : Pl.Visit) : (visitCells x).length = 4 := rfl
theorem pb_len (x : Pl.Bk) : (pbCells x).length = 4 := rfl
/-- A plan's value: its lists lie somewhere. -/
structure PlanP where
  p : Pl.Plan
  sa : Option Addr
  sc : Nat
  wa : Option Addr
  wc : Nat
abbrev PlanP.val (q : PlanP) : Value := .agg #[.int .i64 q.p.entry, .int .i64 q.p.mmin, .int .i64 q.p.mmax, .slice q.sa q.p.st.length q.sc, .slice q.wa q.p.wn.length q.wc]
structure PlanP.ok (q : PlanP) (w : World) : Prop where
  st : StA w q.sa q.sc q.p.st
  wn : WnA w q.wa q.wc q.p.wn
theorem PlanP.ok.below {q : PlanP} {w w' : World} (h : q.ok w) (hb : Below w.heap.size w w') : q.ok w' := ⟨h.st.below hb, h.wn.below hb⟩
theorem PlanP.ok.of_heap {q : PlanP} {w w' : World} (h : q.ok w) (hb : w'.heap = w.heap) : q.ok w' := ⟨h.st.of_heap hb, h.wn.of_heap hb⟩
structure ScenP where
  s : Pl.Scen
  da : Option Addr
  dc : Nat
  ma : Option Addr
  mc : Nat
abbrev ScenP.val (q : ScenP) : Value := .agg #[.slice q.da q.s.dur.length q.dc, .slice q.ma q.s.mv.length q.mc, .int .i64 q.s.det, .int .i64 q.s.tool, .int .i64 q.s.at_]
structure ScenP.ok (q : ScenP) (w : World) : Prop where
  du : IntsA w q.da q.dc q.s.dur
  mv : IntsA w q.ma q.mc q.s.mv
theorem ScenP.ok.below {q : ScenP} {w w' : World} (h : q.ok w) (hb : Below w.heap.size w w') : q.ok w' := ⟨h.du.below hb, h.mv.below hb⟩
theorem ScenP.ok.of_heap {q : ScenP} {w w' : World} (h : q.ok w) (hb : w'.heap = w.heap) : q.ok w' := ⟨h.du.of_heap hb, h.mv.of_heap hb⟩
end Go.Proofs.YtihohjgjklcnlaaDoor

namespace Go.Proofs.YtihohjgjklcnlaaDoor
open Go.RowKit

theorem within_any (n a b : Int) (w : World) : Calls Tryd.prog 40 #[.int .i64 n, .int .i64 a, .int .i64 b] w fun e w' => e = .returned (.bool (Pl.within n a b)) ∧ w = w' := by
  unfold Pl.within
  by_cases h1 : a ≤ n
  · go_enter Tryd.func40, Tryd.ntmps40
    go_wp2
    go_ret
    exact ⟨by simp [h1], rfl⟩
  · go_enter Tryd.func40, Tryd.ntmps40
    go_wp2
    go_ret
    exact ⟨by simp; omega, rfl⟩
theorem pisTool_any (t : Int) (w : World) : Calls Tryd.prog 67 #[.int .i64 t] w fun e w' => e = .returned (.bool (Pl.isTool t)) ∧ w = w' := by
  unfold Pl.isTool
  go_enter Tryd.func67, Tryd.ntmps67
  go_wp2_with fail
  refine (within_any _ _ _ _).mono ?_; rintro _ w1 ⟨rfl, rfl⟩
  go_wp2_with fail
  go_ret
  exact ⟨rfl, rfl⟩
theorem validSlot_any (s : Pl.Slot) (d : Int) (w : World) (hd : 0 ≤ d ∧ d ≤ 1000000) : Calls Tryd.prog 101 #[slotV s, .int .i64 d] w fun e w' => e = .returned (.bool (Pl.okSlot s d)) ∧ Below w.heap.size w w' := by
  unfold Pl.okSlot
  obtain ⟨t, x⟩ := s
  have HT := Lib.hid (pisTool_any t)
  have HW := Lib.hid (within_any x 0 (1000000 - d))
  generalize Pl.isTool t = V at *
  generalize Pl.within x 0 (1000000 - d) = U at *
  have e1 : IntKind.i64.wrap (1000000 - d) = 1000000 - d := IntWalk.i64_in _ (by omega)
  cases V
  · go_enter Tryd.func101, Tryd.ntmps101
    go_wp2_with fail
    refine (HT.out _).mono ?_; rintro _ w1 ⟨rfl, rfl⟩
    go_wp2_with fail
    go_ret
    exact ⟨by simp, below_new _ _⟩
  · go_enter Tryd.func101, Tryd.ntmps101
    go_wp2_with fail
    refine (HT.out _).mono ?_; rintro _ w1 ⟨rfl, rfl⟩
    go_wp2_with fail
    refine (HW.out _).mono ?_; rintro _ w1 ⟨rfl, rfl⟩
    go_wp2_with fail
    go_ret
    exact ⟨by simp, below_new _ _⟩
theorem box_below {w w' : World} {X : Nat} {o : Obj} (h : w.heap[X]? = some o) (hb : Below w.heap.size w w') : w'.heap[X]? = some o := (hb.block X (lt_of_block h)).trans h
abbrev stageObj (x : Pl.Stage) : Obj := .cells #[.int .i64 x.mn, .int .i64 x.mx, .int .i64 x.m.tool, .int .i64 x.m.start, .int .i64 x.s.tool, .int .i64 x.s.start] 45
set_option maxRecDepth 100000 in
theorem validStage_any (x : Pl.Stage) (w : World) : Calls Tryd.prog 89 #[stageV x] w fun e w' => e = .returned (.bool (Pl.okStage x)) ∧ Below w.heap.size w w' := by
  unfold Pl.okStage
  obtain ⟨mn, mx, ⟨mt, ms⟩, ⟨st, ss⟩⟩ := x
  have hb1 : Pl.within mn 1 mx = true → 1 ≤ mn ∧ mn ≤ mx := fun h => Pl.within_iff.1 h
  have HW := Lib.hid (within_any mn 1 mx)
  have HA := Lib.hid (fun hd => fun w => validSlot_any ⟨mt, ms⟩ mx w hd)
  have HB := Lib.hid (fun hd => fun w => validSlot_any ⟨st, ss⟩ mx w hd)
  have HN := Lib.hid (heap_alloc_new w (stageObj ⟨mn, mx, ⟨mt, ms⟩, ⟨st, ss⟩⟩))
  have HG := Lib.hid (below_new w (stageObj ⟨mn, mx, ⟨mt, ms⟩, ⟨st, ss⟩⟩))
  simp only
  generalize Pl.within mn 1 mx = U at *
  generalize Pl.okSlot ⟨mt, ms⟩ mx = V at *
  generalize Pl.okSlot ⟨st, ss⟩ mx = Q at *
  cases U
  · clear hb1 HA HB
    go_enter Tryd.func89, Tryd.ntmps89
    go_wp2_with fail
    refine (HW.out _).mono ?_; rintro _ w1 ⟨rfl, rfl⟩
    go_wp2_with fail
    go_ret
    exact ⟨by simp, HG.out⟩
  · obtain ⟨h1, h2⟩ := hb1 rfl
    by_cases h3 : mx ≤ 10000
    · by_cases h4 : mt = st
      · subst h4
        clear HA HB
        go_enter Tryd.func89, Tryd.ntmps89
        go_wp2_with fail
        refine (HW.out _).mono ?_; rintro _ w1 ⟨rfl, rfl⟩
        go_wp2_with fail
        go_ret
        exact ⟨by simp, HG.out⟩
      · have HA := Lib.hid (HA.out (by omega))
        have HB := Lib.hid (HB.out (by omega))
        have h4' : (mt != st) = true := by simp [h4]
        have H4 := Lib.hid h4
        clear h4
        cases V
        · go_enter Tryd.func89, Tryd.ntmps89
          go_wp2_with fail
          refine (HW.out _).mono ?_; rintro _ w1 ⟨rfl, rfl⟩
          go_wp2_with fail
          refine (HA.out _).mono ?_; rintro _ w1 ⟨rfl, g1⟩
          have G1 := Lib.hid g1; clear g1
          go_wp2_with fail
          go_ret
          exact ⟨by simp, below_step HG.out G1.out⟩
        · go_enter Tryd.func89, Tryd.ntmps89
          go_wp2_with fail
          refine (HW.out _).mono ?_; rintro _ w1 ⟨rfl, rfl⟩
          go_wp2_with fail
          refine (HA.out _).mono ?_; rintro _ w1 ⟨rfl, g1⟩
          have HM := box_below HN.out g1
          have c1 := box_cell HM 1 _ rfl
          have c4 := box_cell HM 4 _ rfl
          have c5 := box_cell HM 5 _ rfl
          have G1 := Lib.hid g1; clear g1 HM
          go_wp2_with fail
          refine (HB.out _).mono ?_; rintro _ w2 ⟨rfl, g2⟩
          have G2 := Lib.hid g2; clear g2
          go_wp2_with fail
          go_ret
          exact ⟨by simp [H4.out, h3], below_step (below_step HG.out G1.out) G2.out⟩
    · clear HA HB
      go_enter Tryd.func89, Tryd.ntmps89
      go_wp2_with fail
      refine (HW.out _).mono ?_; rintro _ w1 ⟨rfl, rfl⟩
      go_wp2_with fail
      go_ret
      exact ⟨by simp; intros; omega, HG.out⟩
theorem validWindow_any (x : Pl.Win) (n : Nat) (w : World) : Calls Tryd.prog 90 #[winV x, .int .i64 n] w fun e w' => e = .returned (.bool (Pl.okWin n x)) ∧ Below w.heap.size w w' := by
  unfold Pl.okWin
  obtain ⟨f, t, l⟩ := x
  have HW := Lib.hid (within_any l 0 1000000)
  have HG := Lib.hid (below_new w (.cells #[.int .i64 f, .int .i64 t, .int .i64 l] 49))
  simp only
  generalize Pl.within l 0 1000000 = U at *
  by_cases h1 : 0 ≤ f
  · by_cases h2 : f < t
    · by_cases h3 : t < n
      · go_enter Tryd.func90, Tryd.ntmps90
        go_wp2_with fail
        refine (HW.out _).mono ?_; rintro _ w1 ⟨rfl, rfl⟩
        go_wp2_with fail
        go_ret
        exact ⟨by simp; omega, HG.out⟩
      · go_enter Tryd.func90, Tryd.ntmps90
        go_wp2_with fail
        go_ret
        exact ⟨by simp; intros; omega, HG.out⟩
    · go_enter Tryd.func90, Tryd.ntmps90
      go_wp2_with fail
      go_ret
      exact ⟨by simp; intros; omega, HG.out⟩
  · go_enter Tryd.func90, Tryd.ntmps90
    go_wp2_with fail
    go_ret
    exact ⟨by simp; intros; omega, HG.out⟩
end Go.Proofs.YtihohjgjklcnlaaDoor

namespace Go.Proofs.YtihohjgjklcnlaaDoor
open Go.RowKit

def cmpI (x y : Int) : Int := if x < y then -1 else if y < x then 1 else 0
theorem cmpI_lt {x y : Int} (h : x < y) : cmpI x y = -1 := by unfold cmpI; rw [if_pos h]
theorem cmpI_gt {x y : Int} (h : y < x) : cmpI x y = 1 := by unfold cmpI; rw [if_neg (by omega), if_pos h]
theorem cmpI_eq (x : Int) : cmpI x x = 0 := by unfold cmpI; rw [if_neg (by omega), if_neg (by omega)]
theorem cmpCompare_any (x y : Int) (w : World) : Calls Tryd.prog 103 #[.int .i64 x, .int .i64 y] w fun e w' => e = .returned (.int .i64 (cmpI x y)) ∧ w = w' := by
  rcases Int.lt_trichotomy x y with h | rfl | h
  · rw [cmpI_lt h]
    go_enter Tryd.func103, Tryd.ntmps103
    go_wp2
    go_ret
    exact ⟨rfl, rfl⟩
  · rw [cmpI_eq]
    go_enter Tryd.func103, Tryd.ntmps103
    go_wp2
    go_ret
    exact ⟨rfl, rfl⟩
  · have h' : ¬ x < y := by omega
    rw [cmpI_gt h]
    go_enter Tryd.func103, Tryd.ntmps103
    go_wp2
    go_ret
    exact ⟨rfl, rfl⟩

/-- The first number that is not zero, or zero. -/
def orI : List Int → Int
  | [] => 0
  | x :: l => if x = 0 then orI l else x
set_option maxHeartbeats 1000000 in
theorem cmpOr_any (L : List Int) (a : Option Addr) (c : Nat) (w : World) (h : IntsA w a c L) :
    Calls Tryd.prog 102 #[.slice a L.length c] w fun e w' => e = .returned (.int .i64 (orI L)) ∧ w = w' := by
  have hlen : L.length ≤ maxLen := Nat.le_trans h.1 h.2.1
  unfold maxLen at hlen
  have HA := Lib.hid h; clear h
  go_enter Tryd.func102, Tryd.ntmps102
  go_wp2_with fail
  go_loop [8] (fun i => ∃ k : Nat, k ≤ L.length ∧ i = .int .i64 (k : Int) ∧ Hid (orI (L.drop k) = orI L)) (fun i => L.length - (intOf i).toNat)
  case atStart => exact ⟨0, Nat.zero_le _, rfl, Lib.hid rfl⟩
  case round =>
    obtain ⟨k, hk, rfl, hh⟩ := hrel
    by_cases hlt : k < L.length
    · obtain ⟨b, off, rfl, hb, hc⟩ := HA.out.at (by omega)
      have c0 : w.cell? ⟨b, off + k, none⟩ = some (.int .i64 L[k]) := by simpa using hc k hlt 0 _ rfl
      have HE := Lib.hid (show orI (L.drop k) = if L[k] = 0 then orI (L.drop (k + 1)) else L[k] by rw [List.drop_eq_getElem_cons hlt, orI])
      clear hc
      generalize L[k] = x at *
      by_cases h1 : x = 0
      · have HN := Lib.hid (show orI (L.drop (k + 1)) = orI L by rw [← hh.out, HE.out, if_pos h1])
        have hx : (x != 0) = false := by simp [h1]
        clear h1
        go_wp2_with fail
        go_round
        case rel => exact ⟨k + 1, by omega, by go_num, HN⟩
        case measure => simp [intOf]; omega
      · have HF := Lib.hid (show orI L = x by rw [← hh.out, HE.out, if_neg h1])
        have hx : (x != 0) = true := by simp [h1]
        clear h1
        go_wp2_with fail
        go_ret
        exact ⟨ret_int HF.out.symm, rfl⟩
    · have HF := Lib.hid (show orI L = 0 by rw [← hh.out, List.drop_of_length_le (by omega)]; rfl)
      go_wp2_with fail
      go_ret
      exact ⟨ret_int HF.out.symm, rfl⟩

def cmpW (v u : Pl.Win) : Int := orI [cmpI v.f u.f, cmpI v.t u.t]
theorem cmpW_ahead (v u : Pl.Win) : decide (0 ≤ cmpW v u) = !Pl.before v u := by
  unfold cmpW Pl.before orI orI orI cmpI
  rw [Bool.eq_iff_iff]
  simp only [decide_eq_true_eq, Bool.not_eq_true', Bool.or_eq_false_iff, decide_eq_false_iff_not, Bool.and_eq_false_iff]
  repeat' split
  all_goals omega
theorem ints_lit2 (w : World) (x y : Int) : IntsA (w.alloc (.cells #[.int .i64 x, .int .i64 y] 3)) (some ⟨w.heap.size, 0, none⟩) 2 [x, y] := by
  refine ⟨Nat.le_refl _, by decide, fun i hi => ⟨w.heap.size, 0, rfl, by simp, fun j v hv => ?_⟩⟩
  have hb := heap_alloc_new w (.cells #[.int .i64 x, .int .i64 y] 3)
  rcases i with _ | _ | i
  · rcases j with _ | j
    · injection hv with hv; subst hv; exact box_cell hb 0 _ rfl
    · simp [intCells] at hv
  · rcases j with _ | j
    · injection hv with hv; subst hv; exact box_cell hb 1 _ rfl
    · simp [intCells] at hv
  · simp at hi; omega

set_option maxRecDepth 100000 in
set_option maxHeartbeats 1000000 in
theorem compareWindows_any (v u : Pl.Win) (w : World) :
    Calls Tryd.prog 91 #[winV v, winV u] w fun e w' => e = .returned (.int .i64 (cmpW v u)) ∧ Below w.heap.size w w' := by
  have h1 := fun w => (cmpCompare_any v.f u.f w).mono (fun _ _ ⟨he, hw⟩ => (⟨he, hw.symm⟩ : _ ∧ _))
  have h2 := fun w => (cmpCompare_any v.t u.t w).mono (fun _ _ ⟨he, hw⟩ => (⟨he, hw.symm⟩ : _ ∧ _))
  have H1 := Lib.hid h1; have H2 := Lib.hid h2
  have h3 := fun w a c hA => cmpOr_any [cmpI v.f u.f, cmpI v.t u.t] a c w hA
  have H3 := Lib.hid h3
  unfold cmpW
  clear h1 h2 h3
  obtain ⟨x1, x2, x3⟩ := v; obtain ⟨y1, y2, y3⟩ := u
  simp only at *
  generalize cmpI x1 y1 = c1 at *; generalize cmpI x2 y2 = c2 at *
  go_enter Tryd.func91, Tryd.ntmps91
  go_wp2_with fail
  obtain ⟨W, hW⟩ : ∃ W, W = (w.alloc (.cells #[.int .i64 x1, .int .i64 x2, .int .i64 x3] 49)).alloc (.cells #[.int .i64 y1, .int .i64 y2, .int .i64 y3] 49) := ⟨_, rfl⟩
  rw [← hW]
  have f0 : W.cell? ⟨w.heap.size, 0, none⟩ = some (.int .i64 x1) := by rw [hW]; simp [go_sem]
  have f1 : W.cell? ⟨w.heap.size, 1, none⟩ = some (.int .i64 x2) := by rw [hW]; simp [go_sem]
  have f2 : W.cell? ⟨w.heap.size + 1, 0, none⟩ = some (.int .i64 y1) := by rw [hW]; simp [go_sem]
  have f3 : W.cell? ⟨w.heap.size + 1, 1, none⟩ = some (.int .i64 y2) := by rw [hW]; simp [go_sem]
  have HB := Lib.hid (show Below w.heap.size w W by rw [hW]; exact below_step (below_new _ _) (below_new _ _))
  clear hW
  go_still_tail 10, (by kernel_rfl)
  still_call (H1.out _)
  repeat still_step
  still_call (H2.out _)
  refine wpStill_nil ?_
  change wpList _ _ _ _ _ W.drew
  go_wp2_with fail
  refine (H3.out _ _ _ ((ints_lit2 W c1 c2).below (Below.refl _ _).drew)).mono ?_; rintro e w1 ⟨rfl, rfl⟩
  go_wp2_with fail
  go_ret
  exact ⟨rfl, (below_step HB.out (below_new _ _)).drew⟩
end Go.Proofs.YtihohjgjklcnlaaDoor
