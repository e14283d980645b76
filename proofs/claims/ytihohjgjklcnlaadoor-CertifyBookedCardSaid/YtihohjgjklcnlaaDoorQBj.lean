/-
  A range over a function whose iterator tells how what it hands out stands in memory: the contract of such an iterator, and the law for its callers.
  The iterator of the critical scenarios.
-/
import Derived.Test.YtihohjgjklcnlaaDoorQBi
import Derived.RangeFuncNested
import Derived.RangeFuncBound
import Derived.RangeFuncCalls
import Derived.RangeFuncLeaves
import Derived.RangeFuncBox
import Derived.Shelf.RegionOpen
import Derived.OwnWalkIn
import Derived.TacticsInMore
import Derived.LoopNIn
import Derived.LoopIn
namespace Go.Proofs.YtihohjgjklcnlaaDoor
open Go.RowKit Go.Shelf
attribute [local go_sem] Oper.semAt_some

/-- Every block of cells is kept. -/
structure KC (W W' : World) : Prop where
  size : W.heap.size ≤ W'.heap.size
  cells : ∀ (k : Nat) (o : Obj), W.heap[k]? = some o → o.isCells = true → W'.heap[k]? = some o
theorem KC.refl (W : World) : KC W W := ⟨Nat.le_refl _, fun _ _ h _ => h⟩
theorem KC.trans {A B C : World} (h : KC A B) (k : KC B C) : KC A C := ⟨Nat.le_trans h.size k.size, fun i o hi ho => k.cells i o (h.cells i o hi ho) ho⟩
theorem KC.ofBelow {W W' : World} (h : Below W.heap.size W W') : KC W W' := ⟨h.size, fun k _ hk _ => (h.block k (lt_of_block hk)).trans hk⟩
theorem cell_obj {W : World} {p : Addr} {v : Value} (h : W.cell? p = some v) : ∃ o : Obj, W.heap[p.block]? = some o ∧ o.isCells = true := by
  unfold World.cell? at h
  cases ho : W.heap[p.block]? with
  | none => rw [ho] at h; cases h
  | some o =>
    rw [ho] at h
    cases o with
    | cells cs t fr => exact ⟨_, rfl, rfl⟩
    | _ => simp at h
theorem KC.cell {W W' : World} (h : KC W W') {p : Addr} {v : Value} (hc : W.cell? p = some v) : W'.cell? p = some v := by
  obtain ⟨o, h1, h2⟩ := cell_obj hc
  exact (World.cell?_of_block ((h.cells _ o h1 h2).trans h1.symm)).trans hc
theorem KC.of_grown {A B : World} {row : Option Nat} (hg : A.grownBy B row) (hr : ∀ r, row = some r → ∃ o : Obj, A.heap[r]? = some o ∧ o.isCells = false) : KC A B :=
  ⟨hg.size, fun k o hk hc => (hg.block k (lt_of_block hk) (fun e => by
    obtain ⟨o', h1, h2⟩ := hr k e.symm
    rw [hk] at h1; injection h1 with h1; rw [h1, h2] at hc; cases hc)).trans hk⟩
theorem KC.putObj (W : World) (l : Nat) (o o' : Obj) (h : W.heap[l]? = some o) (hc : o.isCells = false) : KC W (W.putObj l o') :=
  KC.of_grown (grownBy_putObj' W l o') (fun r e => by cases e; exact ⟨o, h, hc⟩)

/-- An iterator that tells, of each element that it hands out, how it stands in memory (E). -/
def SeqTold {α : Type} (E : α → World → Prop) (Kp : World → World → Prop) (F : Fence) (n : Nat) (P : Program) (g : Nat) (lb : Array Value) (encs : α → Array Value) (S Sp : List α → Prop) (N : Nat) (w : World) : Prop :=
  ∀ (l : Nat) (J Jx : List α → World → Prop) (W : World), Below w.heap.size w W → AbidesFrom W.heap.size J → AbidesFrom W.heap.size Jx →
    (∀ pre x W1, J pre W1 → E x W1 → pre.length < N → YieldAt F (n - 1) P l (encs x) W1 fun e W' =>
      (e = .returned (.bool true) ∧ J (pre ++ [x]) W' ∧ Kp W1 W') ∨ (e = .returned (.bool false) ∧ Jx (pre ++ [x]) W')) →
    J [] W → CallsIn F n P g (#[.func (.yield l) #[] #[]] ++ lb) W fun e W' => (∃ v, e = .returned v) ∧ ((∃ xs, S xs ∧ J xs W') ∨ (∃ pre, Sp pre ∧ Jx pre W'))
/-- How the body of a round may be left. -/
def toldPost {α : Type} (B : Nat) (Kp : World → World → Prop) (I : List α → World → Prop) (Ix : Code → List α → World → Prop) (xs : List α) (W : World) : Exit → Act → World → Prop
  | .normal, _, Y => KeepsFrom B W Y ∧ Kp W Y ∧ I xs Y
  | .ret, _, Y => KeepsFrom B W Y ∧ Ix .ret xs Y
  | .exit id, _, Y => KeepsFrom B W Y ∧ Ix (.exit id) xs Y
  | .goto t, _, Y => KeepsFrom B W Y ∧ Ix (.goto t) xs Y
  | .panic _, _, _ => False
  | .outgrown, _, _ => False

variable {F : Fence} {n : Nat} {P : Program}
theorem wpIn_rangeFunc_told {α : Type} {g : Operand} {ps : Array Tmp} {assign body : Code} {Q : Exit → Act → World → Prop} {a : Act} {w : World}
    (hro : F.round = none) (h1 : 1 ≤ n) {gf : Nat} {lb : Array Value} (hg : a.eval g = .func (.func gf) #[] lb) (hFg : F.fn gf) (eg : ∀ args w, (callFunc gf args).run P w = .ok (.enter gf args) w)
    {encs : α → Array Value} {E : α → World → Prop} {Kp : World → World → Prop} {S Sp : List α → Prop} {N : Nat} {w0 : World} (hseq : SeqTold E Kp F (n - 1) P gf lb encs S Sp N w0)
    (hKt : ∀ {A B C : World}, Kp A B → Kp B C → Kp A C) (hKb : ∀ (W : World) (l : Nat) (o o' : Obj), w.heap.size ≤ l → W.heap[l]? = some o → o.isCells = false → o.isWalk = false → Kp W (W.putObj l o'))
    (hb0 : Below w0.heap.size w0 w) (hps : ∀ x, (encs x).size = ps.size)
    (I : List α → World → Prop) (Ix : Code → List α → World → Prop) (hI : OwnFrom w.heap.size I) (hIx : ∀ c, OwnFrom w.heap.size (Ix c)) (hE : OwnFrom w.heap.size E) (h0 : I [] w)
    (Ax : α → Act → World → Prop) (hAx : ∀ x a' (V : World) (l : Nat) (o o' : Obj), Ax x a' V → w.heap.size ≤ l → V.heap[l]? = some o → o.isCells = false → Ax x a' (V.putObj l o'))
    (hassign : ∀ (l : Nat) (pre : List α) (x : α) (U : World) (K : Act → World → Prop), I pre U → E x U → (∀ a' W', KeepsFrom w.heap.size U W' → Kp U W' → I pre W' → E x W' → Ax x a' W' → K a' W') →
      assign.wpIn (F.inRound l) (n - 1 - 1) P (Exit.then K (fun _ _ _ => False)) { tmps := (ps.zip (encs x)).foldl (fun t (p, v) => t.setIfInBounds p v) a.tmps, defers := [] } U)
    (hbody : ∀ (l : Nat) (pre : List α) (x : α) (a' : Act) (W : World), I pre W → E x W → Ax x a' W → pre.length < N → body.wpIn (F.inRound l) (n - 1 - 1) P (toldPost w.heap.size Kp I Ix (pre ++ [x]) W) a' W)
    (hdone : ∀ (D : Nat) (xs : List α) (W : World), w.heap.size ≤ D → S xs → I xs W → W.heap[D]? = some (.deferred (some [])) → Q .normal { a with defers := { target := .collected D, args := #[] } :: a.defers } W)
    (hstop : ∀ (D : Nat) (c : Code) (pre : List α) (W : World), w.heap.size ≤ D → Sp pre → Ix c pre W → W.heap[D]? = some (.deferred (some [])) → c.wpIn F n P Q { a with defers := { target := .collected D, args := #[] } :: a.defers } W) :
    (Code.rangeFunc g ps assign body).wpIn F n P Q a w := by
  refine wpIn_rangeFunc (fun fn hfn => ?_)
  rw [hro]
  obtain ⟨rc, hrc⟩ : ∃ rc : LoopState → Option Code → Loop, rc = fun st pe => { state := st, pending := pe, fn, tmps := a.tmps, params := ps, assign, body, defers := w.heap.size } := ⟨_, rfl⟩
  obtain ⟨V, hV⟩ : ∃ V, V = (w.alloc (.deferred (some []))).alloc (.loop (rc .ready none)) := ⟨_, rfl⟩
  have vs : V.heap.size = w.heap.size + 2 := by rw [hV]; simp
  have vl : V.heap[w.heap.size + 1]? = some (.loop (rc .ready none)) := by
    have e := World.alloc_heap_new (w.alloc (.deferred (some []))) (.loop (rc .ready none))
    rw [World.size_alloc] at e; rw [hV]; exact e
  have vd : V.heap[w.heap.size]? = some (.deferred (some [])) := by
    rw [hV]; exact (Below.heap_alloc _ _ _ (by simp)).trans (World.alloc_heap_new w _)
  have vI : I [] V := by rw [hV]; exact hI.alloc _ (hI.alloc _ h0)
  have vb : Below w0.heap.size w0 V := by
    rw [hV]; exact hb0.trans ((((Below.refl _ w).alloc (Nat.le_refl _) _).alloc (by simp) _).mono hb0.size)
  refine ⟨w.heap.size + 1, [{ target := .collected w.heap.size, args := #[] }], V, { target := .fn (.func gf) lb, args := #[.func (.yield (w.heap.size + 1)) #[] #[]] }, V, gf,
    #[.func (.yield (w.heap.size + 1)) #[] #[]] ++ lb, V, ?_, ?_, ?_, ?_, fun _ => h1, ?_⟩
  · rw [hV, hrc]; exact run_enterLoop_outer _ _ _ _ _
  · simp only [resolve, hg]
    simp [go_sem]
  · intro f' hf'; simp [Target.leads] at hf'; subst hf'; exact hFg
  · simp [invoke, go_sem, eg]
  · have walk : ∀ {A : World} {row : Option Nat}, (∀ r, row = some r → V.heap.size ≤ r ∧ ∃ o : Obj, A.heap[r]? = some o ∧ o.isWalk = true) → (∀ r, row = some r → w.heap.size ≤ r ∧ ∃ o : Obj, A.heap[r]? = some o ∧ o.isCells = false) :=
      fun hr r e => by obtain ⟨q, o, ho, hw⟩ := hr r e; exact ⟨by omega, o, ho, Obj.not_cells_of_walk hw⟩
    refine (hseq (w.heap.size + 1)
      (fun pre W => I pre W ∧ W.heap[w.heap.size + 1]? = some (.loop (rc .ready none)) ∧ W.heap[w.heap.size]? = some (.deferred (some [])))
      (fun pre W => ∃ c, Ix c pre W ∧ W.heap[w.heap.size + 1]? = some (.loop (rc .done (some c))) ∧ W.heap[w.heap.size]? = some (.deferred (some []))) V vb
      (fun s A B row hs hg' hr => by
        obtain ⟨hi, hl, hd⟩ := hs
        exact ⟨hI s A B row hi hg' (walk hr), (grownBy_keeps hg' (fun r e => (hr r e).2) hl rfl).trans hl, (grownBy_keeps hg' (fun r e => (hr r e).2) hd rfl).trans hd⟩)
      (fun s A B row hs hg' hr => by
        obtain ⟨c, hc, hl, hd⟩ := hs
        exact ⟨c, hIx c s A B row hc hg' (walk hr), (grownBy_keeps hg' (fun r e => (hr r e).2) hl rfl).trans hl, (grownBy_keeps hg' (fun r e => (hr r e).2) hd rfl).trans hd⟩)
      ?_ ⟨vI, vl, vd⟩).mono ?_
    · rintro pre x W ⟨hi, hl, hd⟩ hex hlen
      have hy := run_yield (P := P) (args := encs x) hl (by rw [hrc]; exact hps x)
      rw [hrc] at hy
      refine ⟨fn, _, assign, body, hy, roundIn_of_wpIn hfn (hassign _ pre x W _ hi hex ?_)⟩
      clear hy
      intro a' U kf kp ui ue ua
      have ul := kf.same _ _ (by omega) hl rfl
      have ud := kf.same _ _ (Nat.le_refl _) hd rfl
      have ult : w.heap.size + 1 < U.heap.size := (Array.getElem?_eq_some_iff.1 ul).1
      refine ⟨_, run_beginRound ul (by rw [hrc]), ?_⟩
      obtain ⟨X, hX⟩ : ∃ X, X = U.putObj (w.heap.size + 1) (.loop { rc .ready none with state := .busy }) := ⟨_, rfl⟩
      have xl : X.heap[w.heap.size + 1]? = some (.loop { rc .ready none with state := .busy }) := by rw [hX]; exact World.putObj_heap_same ult
      have xd : X.heap[w.heap.size]? = some (.deferred (some [])) := by rw [hX]; exact (World.putObj_heap_other (by omega)).trans ud
      have xi : I pre X := by rw [hX]; exact hI.putObj _ ui (by omega) ul rfl
      have xe : E x X := by rw [hX]; exact hE.putObj _ ue (by omega) ul rfl
      have xa : Ax x a' X := by rw [hX]; exact hAx x a' _ _ _ _ ua (by omega) ul rfl
      have xk : Kp W X := hKt kp (by rw [hX]; exact hKb _ _ _ _ (by omega) ul rfl rfl)
      rw [← hX]
      refine wpIn_mono (hbody _ pre x a' X xi xe xa hlen) ?_
      have fin : ∀ (jump : Option Code) (Y : World), KeepsFrom w.heap.size X Y →
          (Instr.endRound (w.heap.size + 1) jump).run P Y = .ok (.bool jump.isNone) (Y.putObj (w.heap.size + 1) (.loop (rc (if jump.isNone then .ready else .done) jump))) ∧
          Y.heap[w.heap.size + 1]? = some (.loop { rc .ready none with state := .busy }) ∧
          (Y.putObj (w.heap.size + 1) (.loop (rc (if jump.isNone then .ready else .done) jump))).heap[w.heap.size + 1]? = some (.loop (rc (if jump.isNone then .ready else .done) jump)) ∧
          (Y.putObj (w.heap.size + 1) (.loop (rc (if jump.isNone then .ready else .done) jump))).heap[w.heap.size]? = some (.deferred (some [])) := fun jump Y yk => by
        have yl := yk.same _ _ (by omega) xl rfl
        have he := run_endRound (P := P) jump yl
        rw [hrc] at he ⊢
        exact ⟨he, by rw [hrc] at yl; exact yl, World.putObj_heap_same (Array.getElem?_eq_some_iff.1 yl).1, (World.putObj_heap_other (by omega)).trans (yk.same _ _ (Nat.le_refl _) xd rfl)⟩
      rintro e a3 Y hp
      cases e with
      | normal =>
        obtain ⟨yf, yk, yi⟩ := hp
        obtain ⟨he, yl, zl, zd⟩ := fin none Y yf
        exact ⟨_, _, he, .inl ⟨rfl, ⟨hI.putObj _ yi (by omega) yl rfl, zl, zd⟩, hKt (hKt xk yk) (hKb _ _ _ _ (by omega) yl rfl rfl)⟩⟩
      | ret =>
        obtain ⟨yf, yi⟩ := hp
        obtain ⟨he, yl, zl, zd⟩ := fin (some .ret) Y yf
        exact ⟨_, _, he, .inr ⟨rfl, .ret, (hIx _).putObj _ yi (by omega) yl rfl, zl, zd⟩⟩
      | exit id =>
        obtain ⟨yf, yi⟩ := hp
        obtain ⟨he, yl, zl, zd⟩ := fin (some (.exit id)) Y yf
        exact ⟨_, _, he, .inr ⟨rfl, .exit id, (hIx _).putObj _ yi (by omega) yl rfl, zl, zd⟩⟩
      | goto t =>
        obtain ⟨yf, yi⟩ := hp
        obtain ⟨he, yl, zl, zd⟩ := fin (some (.goto t)) Y yf
        exact ⟨_, _, he, .inr ⟨rfl, .goto t, (hIx _).putObj _ yi (by omega) yl rfl, zl, zd⟩⟩
      | panic ch => exact hp.elim
      | outgrown => exact hp.elim
    · rintro e Y ⟨⟨v, rfl⟩, (⟨xs, hS, yi, yl, yd⟩ | ⟨pre, hSp, c, yi, yl, yd⟩)⟩
      · have he := run_endLoop (P := P) yl (by rw [hrc]; simp)
        rw [hrc] at he
        exact ⟨none, _, he, hdone _ xs _ (Nat.le_refl _) hS (hI.putObj _ yi (by omega) yl rfl) ((World.putObj_heap_other (by omega)).trans yd)⟩
      · have he := run_endLoop (P := P) yl (by rw [hrc]; simp)
        rw [hrc] at he
        exact ⟨some c, _, he, hstop _ c pre _ (Nat.le_refl _) hSp ((hIx c).putObj _ yi (by omega) yl rfl) ((World.putObj_heap_other (by omega)).trans yd)⟩
end Go.Proofs.YtihohjgjklcnlaaDoor

namespace Go.Proofs.YtihohjgjklcnlaaDoor
open Go.RowKit Go.Shelf
attribute [local go_sem] Oper.semAt_some

theorem RowA.kc {α : Type} {f : α → List Value} {k : Nat} {w w' : World} {a : Option Addr} {c : Nat} {L : List α} (h : RowA f k w a c L) (hb : KC w w') : RowA f k w' a c L := by
  refine ⟨h.1, h.2.1, fun i hi => ?_⟩
  obtain ⟨b, off, rfl, h1, h2⟩ := h.2.2 i hi
  exact ⟨b, off, rfl, Nat.lt_of_lt_of_le h1 hb.size, fun j v hv => hb.cell (h2 j v hv)⟩
theorem PlanP.ok.kc {q : PlanP} {w w' : World} (h : q.ok w) (hb : KC w w') : q.ok w' := ⟨h.st.kc hb, h.wn.kc hb⟩
theorem ScenP.ok.kc {q : ScenP} {w w' : World} (h : q.ok w) (hb : KC w w') : q.ok w' := ⟨h.du.kc hb, h.mv.kc hb⟩
theorem RowAt.kc {B : Nat} {t : TypeId} {w w' : World} {a : Option Addr} (h : RowAt B t w a) (hb : KC w w') : RowAt B t w' a := fun x hx => by
  obtain ⟨g, cs, e, h1, h2⟩ := h x hx
  exact ⟨g, cs, e, h1, hb.cells _ _ h2 rfl⟩
theorem ScE.kc {x : ScenP} {w w' : World} (h : ScE x w) (hb : KC w w') : ScE x w' := ⟨h.ok.kc hb, h.dr.kc hb, h.mr.kc hb⟩
theorem grown_of_below {W W' : World} (h : Below W.heap.size W W') : W.grownBy W' none := ⟨h.os, h.tape, h.output, h.size, fun k hk _ => h.block k hk⟩
/-- What a round may do. -/
def Rnd (n l N : Nat) (J Jx : List ScenP → World → Prop) : Prop := ∀ pre (x : ScenP) W1, J pre W1 → ScE x W1 → pre.length < N → YieldAt Fence.wide (n - 1) Tryd.prog l #[x.val] W1 fun e W' =>
      (e = .returned (.bool true) ∧ J (pre ++ [x]) W' ∧ KC W1 W') ∨ (e = .returned (.bool false) ∧ Jx (pre ++ [x]) W')
/-- What the iterator leaves. -/
def CritPost (J Jx : List ScenP → World → Prop) (G : List Pl.Scen) (e : Ending) (W' : World) : Prop := (∃ v, e = .returned v) ∧ ((∃ ys, ys.map (·.s) = G ∧ J ys W') ∨ (∃ pre, pre.map (·.s) <+: G ∧ Jx pre W'))
set_option maxRecDepth 100000 in
set_option maxHeartbeats 2000000 in
theorem crit1_in (n : Nat) (hn : 1 ≤ n) (l Bp : Nat) (q : PlanP) (W : World) (J Jx : List ScenP → World → Prop) (hJ : AbidesFrom W.heap.size J) (hY : Rnd n l 30 J Jx)
    (hBp : W.heap[Bp]? = some (planObj q)) (hq : q.ok W) (hv : Pl.Valid q.p) (h0 : J [] W) :
    CallsIn Fence.wide n Tryd.prog 60 #[.func (.yield l) #[] #[], .pointer (some ⟨Bp, 0, none⟩)] W (CritPost J Jx (Pl.criticals q.p)) := by
  refine callsIn_wide.2 ?_
  have HQ := Lib.hid hq; have HY := Lib.hid hY; have HJ := Lib.hid hJ; have H0 := Lib.hid h0; have HV := Lib.hid hv; have HB := Lib.hid hBp
  have hst := hv.len; have hwl := hv.wlen
  clear hq hY hJ h0 hv hBp
  obtain ⟨⟨en, mi, ma, st, wn⟩, sa, sc, wa, wc⟩ := q
  simp only at hst hwl
  have c0 := box_cell HB.out 0 (.int .i64 en) rfl
  have c1 := box_cell HB.out 1 (.int .i64 mi) rfl
  have c2 := box_cell HB.out 2 (.int .i64 ma) rfl
  have c3 := box_cell HB.out 3 (.slice sa st.length sc) rfl
  have c4 := box_cell HB.out 4 (.slice wa wn.length wc) rfl
  go_enter Tryd.func60, Tryd.ntmps60
  refine (wpIn_wide (n := n)).1 ?_
  gi_wp2_with fail
  refine ⟨trivial, (callsIn_wide.2 (slowest_any ⟨⟨en, mi, ma, st, wn⟩, sa, sc, wa, wc⟩ W HQ.out (by show st.length ≤ 8; omega))).mono ?_⟩; rintro e W1 ⟨da, dc, mb, mc, rfl, d1, d2, g1, -⟩
  have E1 := Lib.hid (show ScE ⟨Pl.slowest ⟨en, mi, ma, st, wn⟩, da, dc, mb, mc⟩ W1 from ⟨scen_ok d1 d2, d1.at_.mono (Nat.zero_le _), d2.at_.mono (Nat.zero_le _)⟩)
  have J1 := Lib.hid (HJ.out _ _ _ none H0.out (grown_of_below g1) (fun r e => by cases e))
  have K1 := Lib.hid (KC.ofBelow g1)
  clear d1 d2 g1 c0 c1 c2 c3 c4
  generalize hsl : Pl.slowest ⟨en, mi, ma, st, wn⟩ = s0 at *
  obtain ⟨fn, tmps, assign, body, hy, hR⟩ := HY.out [] ⟨s0, da, dc, mb, mc⟩ W1 J1.out E1.out (by simp)
  dsimp only [ScenP.val] at hy
  gi_wp2
  refine hR.mono ?_
  rintro e W3 (⟨rfl, hJ3, hk3⟩ | ⟨rfl, hJx3⟩)
  · have HK3 := Lib.hid (K1.out.trans hk3)
    have HJ3 := Lib.hid hJ3
    clear hJ3 hk3
    have c0 := HK3.out.cell (box_cell HB.out 0 (.int .i64 en) rfl)
    have c1 := HK3.out.cell (box_cell HB.out 1 (.int .i64 mi) rfl)
    have c2 := HK3.out.cell (box_cell HB.out 2 (.int .i64 ma) rfl)
    have c3 := HK3.out.cell (box_cell HB.out 3 (.slice sa st.length sc) rfl)
    have c4 := HK3.out.cell (box_cell HB.out 4 (.slice wa wn.length wc) rfl)
    gi_wp2_with fail
    gi_loopw [15] (fun iv wr => ∃ (k : Nat) (pre : List ScenP), k ≤ st.length ∧ iv = .int .i64 (k : Int) ∧ Hid (pre.map (·.s) = s0 :: (st.take k).map (Pl.lost ⟨en, mi, ma, st, wn⟩)) ∧ Hid (J pre wr) ∧ Hid (KC W wr)) (fun iv _ => st.length - (intOf iv).toNat)
    case atStart => exact ⟨0, _, Nat.zero_le _, rfl, Lib.hid (by simp), HJ3, HK3⟩
    case round =>
      obtain ⟨k, pre, hk, rfl, HPre, HJs, HK⟩ := hrel
      by_cases hlt : k < st.length
      · obtain ⟨b, off, rfl, hb, hc⟩ := (HQ.out.st.kc HK.out).at (show 0 < st.length by omega)
        obtain ⟨t0, t1, t2, t3, t4, t5⟩ := st_cells (hc k hlt)
        have HX := Lib.hid (HV.out.st st[k] (List.getElem_mem hlt))
        have HT := Lib.hid (show (st.take (k + 1)).map (Pl.lost ⟨en, mi, ma, st, wn⟩) = (st.take k).map (Pl.lost ⟨en, mi, ma, st, wn⟩) ++ [Pl.lost ⟨en, mi, ma, st, wn⟩ st[k]] by rw [List.take_succ_eq_append_getElem hlt, List.map_append]; rfl)
        have HL := Lib.hid (show pre.length = k + 1 by have := congrArg List.length HPre.out; simp at this; omega)
        clear hc
        generalize st[k] = x at *
        have i0 : (0 : Int) ≤ (k : Int) := by omega
        have i1 : (k : Int) < (st.length : Int) := by omega
        have i4 : ((k : Int)).toNat = k := by omega
        have HA := Lib.hid (below_new wr (stageObj x))
        have HKa := Lib.hid (HK.out.trans (KC.ofBelow HA.out))
        have c0 := HKa.out.cell (box_cell HB.out 0 (.int .i64 en) rfl)
        have c1 := HKa.out.cell (box_cell HB.out 1 (.int .i64 mi) rfl)
        have c2 := HKa.out.cell (box_cell HB.out 2 (.int .i64 ma) rfl)
        have c3 := HKa.out.cell (box_cell HB.out 3 (.slice (some ⟨b, off, none⟩) st.length sc) rfl)
        have c4 := HKa.out.cell (box_cell HB.out 4 (.slice wa wn.length wc) rfl)
        dsimp only [stageObj] at c0 c1 c2 c3 c4
        gi_wp2_with fail
        refine ⟨trivial, (callsIn_wide.2 (lost_any ⟨⟨en, mi, ma, st, wn⟩, some ⟨b, off, none⟩, sc, wa, wc⟩ x (wr.alloc (stageObj x)) (HQ.out.kc HKa.out) (by show st.length ≤ 8; omega) HX.out)).mono ?_⟩; rintro e W4 ⟨ea, ec, ga, gc, rfl, e4, g4⟩
        have E4 := Lib.hid e4
        have J4 := Lib.hid (HJ.out _ _ _ none HJs.out (grown_of_below (below_step HA.out g4)) (fun r e => by cases e))
        have K4 := Lib.hid (HKa.out.trans (KC.ofBelow g4))
        clear e4 g4 c0 c1 c2 c3 c4 t0 t1 t2 t3 t4 t5
        have HG1 := Lib.hid (show (pre ++ [(⟨Pl.lost ⟨en, mi, ma, st, wn⟩ x, ea, ec, ga, gc⟩ : ScenP)]).map (·.s) = s0 :: (st.take (k + 1)).map (Pl.lost ⟨en, mi, ma, st, wn⟩) by rw [List.map_append, HPre.out, HT.out]; rfl)
        obtain ⟨fn, tmps, assign, body, hy, hR⟩ := HY.out pre ⟨Pl.lost ⟨en, mi, ma, st, wn⟩ x, ea, ec, ga, gc⟩ W4 J4.out E4.out (by have := HL.out; omega)
        dsimp only [ScenP.val] at hy
        gi_wp2
        refine hR.mono ?_
        rintro e W5 (⟨rfl, hJ5, hk5⟩ | ⟨rfl, hJx5⟩)
        · have HJ5 := Lib.hid hJ5
          have HK5 := Lib.hid (K4.out.trans hk5)
          clear hJ5 hk5
          gi_wp2
          go_roundw
          case rel => exact ⟨k + 1, _, by omega, by go_num, HG1, HJ5, HK5⟩
          case measure => simp [intOf]; omega
        · have HJ5 := Lib.hid hJx5
          clear hJx5
          gi_wp2
          refine bodyPost_ret (results_none rfl _ _ _) rfl ?_
          exact ⟨⟨_, rfl⟩, .inr ⟨_, by
            rw [HG1.out]
            unfold Pl.criticals
            rw [hsl]
            refine List.prefix_cons_inj _ |>.2 ((List.IsPrefix.trans ?_ (List.prefix_append _ _)))
            exact (List.take_prefix (k + 1) st).map _, HJ5.out⟩⟩
      · obtain rfl : k = st.length := by omega
        rw [List.take_length] at HPre
        have c0 := HK.out.cell (box_cell HB.out 0 (.int .i64 en) rfl)
        have c1 := HK.out.cell (box_cell HB.out 1 (.int .i64 mi) rfl)
        have c2 := HK.out.cell (box_cell HB.out 2 (.int .i64 ma) rfl)
        have c3 := HK.out.cell (box_cell HB.out 3 (.slice sa st.length sc) rfl)
        have c4 := HK.out.cell (box_cell HB.out 4 (.slice wa wn.length wc) rfl)
        have k1 : ¬ (st.length : Int) < (st.length : Int) := by omega
        gi_wp2_with fail
        clear c0 c1 c2 c3 c4 k1
        rename World => wa1
        gi_loopw [29] (fun iv wr => ∃ (j : Nat) (pre : List ScenP), j ≤ wn.length ∧ iv = .int .i64 (j : Int) ∧ Hid (pre.map (·.s) = s0 :: (st.map (Pl.lost ⟨en, mi, ma, st, wn⟩) ++ (wn.take j).map (Pl.widest ⟨en, mi, ma, st, wn⟩))) ∧ Hid (J pre wr) ∧ Hid (KC W wr)) (fun iv _ => wn.length - (intOf iv).toNat)
        case atStart => exact ⟨0, _, Nat.zero_le _, rfl, Lib.hid (by simpa using HPre.out), HJs, HK⟩
        case round =>
          clear HPre HJs HK
          obtain ⟨j, pre, hj, rfl, HPre, HJs, HK⟩ := hrel
          by_cases hlt : j < wn.length
          · obtain ⟨b, off, rfl, hb, hc⟩ := (HQ.out.wn.kc HK.out).at (show 0 < wn.length by omega)
            obtain ⟨t0, t1, t2⟩ := wn_cells (hc j hlt)
            have HX := Lib.hid (HV.out.wn wn[j] (List.getElem_mem hlt))
            have HT := Lib.hid (show (wn.take (j + 1)).map (Pl.widest ⟨en, mi, ma, st, wn⟩) = (wn.take j).map (Pl.widest ⟨en, mi, ma, st, wn⟩) ++ [Pl.widest ⟨en, mi, ma, st, wn⟩ wn[j]] by rw [List.take_succ_eq_append_getElem hlt, List.map_append]; rfl)
            have HL := Lib.hid (show pre.length = st.length + j + 1 by have := congrArg List.length HPre.out; simp at this; omega)
            clear hc
            generalize wn[j] = x at *
            have i0 : (0 : Int) ≤ (j : Int) := by omega
            have i1 : (j : Int) < (wn.length : Int) := by omega
            have i4 : ((j : Int)).toNat = j := by omega
            have HA := Lib.hid (below_new wr (winObj x))
            have HKa := Lib.hid (HK.out.trans (KC.ofBelow HA.out))
            have c0 := HKa.out.cell (box_cell HB.out 0 (.int .i64 en) rfl)
            have c1 := HKa.out.cell (box_cell HB.out 1 (.int .i64 mi) rfl)
            have c2 := HKa.out.cell (box_cell HB.out 2 (.int .i64 ma) rfl)
            have c3 := HKa.out.cell (box_cell HB.out 3 (.slice sa st.length sc) rfl)
            have c4 := HKa.out.cell (box_cell HB.out 4 (.slice (some ⟨b, off, none⟩) wn.length wc) rfl)
            dsimp only [winObj] at c0 c1 c2 c3 c4
            gi_wp2_with fail
            refine ⟨trivial, (callsIn_wide.2 (widest_any ⟨⟨en, mi, ma, st, wn⟩, sa, sc, some ⟨b, off, none⟩, wc⟩ x (wr.alloc (winObj x)) (HQ.out.kc HKa.out) (by show st.length ≤ 8; omega) HX.out)).mono ?_⟩; rintro e W4 ⟨ea, ec, ga, gc, rfl, e4, g4⟩
            have E4 := Lib.hid e4
            have J4 := Lib.hid (HJ.out _ _ _ none HJs.out (grown_of_below (below_step HA.out g4)) (fun r e => by cases e))
            have K4 := Lib.hid (HKa.out.trans (KC.ofBelow g4))
            clear e4 g4 c0 c1 c2 c3 c4 t0 t1 t2
            have HG1 := Lib.hid (show (pre ++ [(⟨Pl.widest ⟨en, mi, ma, st, wn⟩ x, ea, ec, ga, gc⟩ : ScenP)]).map (·.s) = s0 :: (st.map (Pl.lost ⟨en, mi, ma, st, wn⟩) ++ (wn.take (j + 1)).map (Pl.widest ⟨en, mi, ma, st, wn⟩)) by rw [List.map_append, HPre.out, HT.out]; simp)
            obtain ⟨fn, tmps, assign, body, hy, hR⟩ := HY.out pre ⟨Pl.widest ⟨en, mi, ma, st, wn⟩ x, ea, ec, ga, gc⟩ W4 J4.out E4.out (by have := HL.out; omega)
            dsimp only [ScenP.val] at hy
            gi_wp2
            refine hR.mono ?_
            rintro e W5 (⟨rfl, hJ5, hk5⟩ | ⟨rfl, hJx5⟩)
            · have HJ5 := Lib.hid hJ5
              have HK5 := Lib.hid (K4.out.trans hk5)
              clear hJ5 hk5
              gi_wp2
              go_roundw
              case rel => exact ⟨j + 1, _, by omega, by go_num, HG1, HJ5, HK5⟩
              case measure => simp [intOf]; omega
            · have HJ5 := Lib.hid hJx5
              clear hJx5
              gi_wp2
              refine bodyPost_ret (results_none rfl _ _ _) rfl ?_
              exact ⟨⟨_, rfl⟩, .inr ⟨_, by
                rw [HG1.out]
                unfold Pl.criticals
                rw [hsl]
                exact List.prefix_cons_inj _ |>.2 ((List.prefix_append_right_inj _).2 ((List.take_prefix (j + 1) wn).map _)), HJ5.out⟩⟩
          · obtain rfl : j = wn.length := by omega
            rw [List.take_length] at HPre
            have k1 : ¬ (wn.length : Int) < (wn.length : Int) := by omega
            gi_wp2
            go_wp2_with fail
            go_end0
            exact ⟨⟨_, rfl⟩, .inl ⟨_, by rw [HPre.out]; unfold Pl.criticals; rw [hsl], HJs.out⟩⟩
  · have HJ3 := Lib.hid hJx3
    clear hJx3
    gi_wp2
    refine bodyPost_ret (results_none rfl _ _ _) rfl ?_
    exact ⟨⟨_, rfl⟩, .inr ⟨_, ⟨_, by unfold Pl.criticals; rw [hsl]; rfl⟩, HJ3.out⟩⟩
end Go.Proofs.YtihohjgjklcnlaaDoor
