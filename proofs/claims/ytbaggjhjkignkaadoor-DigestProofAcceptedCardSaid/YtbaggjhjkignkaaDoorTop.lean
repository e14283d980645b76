/-
  A range over a function whose iterator lays blocks of its own between two rounds and reads them behind a round: the contract of such an iterator, and the law for its callers.
-/
import Derived.Test.YtbaggjhjkignkaaDoorRange
namespace Go.Proofs.YtbaggjhjkignkaaDoor
open Go.RowKit

/-- What a round keeps for the iterator: the cells of the blocks in G, and of the last k blocks. -/
structure KeepsTop (k : Nat) (G : Nat → Prop) (U Y : World) : Prop where
  size : U.heap.size ≤ Y.heap.size
  same : ∀ (j : Nat) (o : Obj), (G j ∨ U.heap.size ≤ j + k) → U.heap[j]? = some o → o.isCells = true → Y.heap[j]? = some o
theorem KeepsTop.put {k : Nat} {G : Nat → Prop} {U Y : World} (h : KeepsTop k G U Y) {l : Nat} {o o' : Obj} (hl : Y.heap[l]? = some o) (ho : o.isCells = false) : KeepsTop k G U (Y.putObj l o') :=
  ⟨by have := h.size; simpa using this, fun j o2 hj hu hc => by
    have hy := h.same j o2 hj hu hc
    by_cases e : j = l
    · subst e; rw [hl] at hy; cases hy; rw [ho] at hc; cases hc
    · exact (World.putObj_heap_other e).trans hy⟩

/-- An iterator that lays blocks between two rounds, the last k of which it reads behind the round, and the blocks in G. -/
def SeqTop {α : Type} (k : Nat) (G : Nat → Prop) (F : Fence) (n : Nat) (P : Program) (g : Nat) (lb : Array Value) (encs : α → Array Value) (S Sp : List α → Prop) (N : Nat) (w : World) : Prop :=
  ∀ (l : Nat) (J Jx : List α → World → Prop) (W : World), Below w.heap.size w W → AbidesFrom W.heap.size J → AbidesFrom W.heap.size Jx →
    (∀ pre x Wb W1, J pre Wb → Wb.grownBy W1 none → Wb.heap.size + k ≤ W1.heap.size → pre.length < N → YieldAt F (n - 1) P l (encs x) W1 fun e W' =>
      (e = .returned (.bool true) ∧ J (pre ++ [x]) W' ∧ KeepsTop k G W1 W') ∨ (e = .returned (.bool false) ∧ Jx (pre ++ [x]) W')) →
    J [] W → CallsIn F n P g (#[.func (.yield l) #[] #[]] ++ lb) W fun e W' => (∃ v, e = .returned v) ∧ ((∃ xs, S xs ∧ J xs W') ∨ (∃ pre, Sp pre ∧ Jx pre W'))

/-- How the body of a round may be left; U: the world in which the round began. -/
def topPost {α : Type} (B k : Nat) (G : Nat → Prop) (I : Nat → List α → World → Prop) (Ix : Code → List α → World → Prop) (xs : List α) (U W : World) : Exit → Act → World → Prop
  | .normal, _, Y => KeepsFrom B W Y ∧ KeepsTop k G U Y ∧ I Y.heap.size xs Y
  | .ret, _, Y => KeepsFrom B W Y ∧ Ix .ret xs Y
  | .exit id, _, Y => KeepsFrom B W Y ∧ Ix (.exit id) xs Y
  | .goto t, _, Y => KeepsFrom B W Y ∧ Ix (.goto t) xs Y
  | .panic _, _, _ => False
  | .outgrown, _, _ => False

variable {F : Fence} {n : Nat} {P : Program}

theorem wpIn_rangeFunc_topP {α : Type} {g : Operand} {ps : Array Tmp} {assign body : Code} {Q : Exit → Act → World → Prop} {a : Act} {w : World}
    (hro : F.round = none) (h1 : 1 ≤ n) {gf : Nat} {lb : Array Value} (hg : a.eval g = .func (.func gf) #[] lb) (hFg : F.fn gf) (eg : ∀ args w, (callFunc gf args).run P w = .ok (.enter gf args) w)
    {encs : α → Array Value} {k : Nat} {G : Nat → Prop} {S Sp : List α → Prop} {N : Nat} {w0 : World} (hseq : SeqTop k G F (n - 1) P gf lb encs S Sp N w0)
    (hb0 : Below w0.heap.size w0 w) (hps : ∀ x, (encs x).size = ps.size)
    (I : Nat → List α → World → Prop) (Ix : Code → List α → World → Prop) (hI : ∀ b, OwnFrom w.heap.size (I b)) (hIx : ∀ c, OwnFrom w.heap.size (Ix c)) (h0 : I w.heap.size [] w)
    (Ax : World → α → Act → World → Prop) (hAx : ∀ U x a' (V : World) (l : Nat) (o o' : Obj), Ax U x a' V → w.heap.size ≤ l → V.heap[l]? = some o → o.isCells = false → Ax U x a' (V.putObj l o'))
    (hassign : ∀ (l b : Nat) (pre : List α) (x : α) (U : World) (K : Act → World → Prop), b + k ≤ U.heap.size → I b pre U → (∀ a' W', KeepsFrom w.heap.size U W' → I b pre W' → Ax U x a' W' → K a' W') →
      assign.wpIn (F.inRound l) (n - 1 - 1) P (Exit.then K (fun _ _ _ => False)) { tmps := (ps.zip (encs x)).foldl (fun t (p, v) => t.setIfInBounds p v) a.tmps, defers := [] } U)
    (hbody : ∀ (l b : Nat) (pre : List α) (x : α) (U : World) (a' : Act) (W : World), b + k ≤ U.heap.size → I b pre W → Ax U x a' W → pre.length < N → w.heap.size ≤ l → (∃ r, W.heap[l]? = some (.loop r)) → body.wpIn (F.inRound l) (n - 1 - 1) P (topPost w.heap.size k G I Ix (pre ++ [x]) U W) a' W)
    (hdone : ∀ (D b : Nat) (xs : List α) (W : World), w.heap.size ≤ D → b ≤ W.heap.size → S xs → I b xs W → W.heap[D]? = some (.deferred (some [])) → Q .normal { a with defers := { target := .collected D, args := #[] } :: a.defers } W)
    (hstop : ∀ (D : Nat) (c : Code) (pre : List α) (W : World), w.heap.size ≤ D → Sp pre → Ix c pre W → W.heap[D]? = some (.deferred (some [])) → c.wpIn F n P Q { a with defers := { target := .collected D, args := #[] } :: a.defers } W) :
    (Code.rangeFunc g ps assign body).wpIn F n P Q a w := by
  refine wpIn_rangeFunc (fun fn hfn => ?_)
  rw [hro]
  obtain ⟨rc, hrc⟩ : ∃ rc : LoopState → Option Code → Loop, rc = fun st pe => { state := st, pending := pe, fn, tmps := a.tmps, params := ps, assign, body, defers := w.heap.size } := ⟨_, rfl⟩
  obtain ⟨V, hV⟩ : ∃ V, V = (w.alloc (.deferred (some []))).alloc (.loop (rc .ready none)) := ⟨_, rfl⟩
  have vs : V.heap.size = w.heap.size + 2 := by rw [hV]; simp
  have vl : V.heap[w.heap.size + 1]? = some (.loop (rc .ready none)) := by
    have e := World.alloc_heap_new (w.alloc (.deferred (some []))) (.loop (rc .ready none))
    rw [World.size_alloc] at e; rw [hV]; exact e
  have vd : V.heap[w.heap.size]? = some (.deferred (some [])) := by
    rw [hV]; exact (Below.heap_alloc _ _ _ (by simp)).trans (World.alloc_heap_new w _)
  have vI : I w.heap.size [] V := by rw [hV]; exact (hI _).alloc _ ((hI _).alloc _ h0)
  have vb : Below w0.heap.size w0 V := by
    rw [hV]; exact hb0.trans ((((Below.refl _ w).alloc (Nat.le_refl _) _).alloc (by simp) _).mono hb0.size)
  refine ⟨w.heap.size + 1, [{ target := .collected w.heap.size, args := #[] }], V, { target := .fn (.func gf) lb, args := #[.func (.yield (w.heap.size + 1)) #[] #[]] }, V, gf,
    #[.func (.yield (w.heap.size + 1)) #[] #[]] ++ lb, V, ?_, ?_, ?_, ?_, fun _ => h1, ?_⟩
  · rw [hV, hrc]; exact run_enterLoop_outer _ _ _ _ _
  · simp only [resolve, hg]
    simp [go_sem]
  · intro f' hf'; simp [Target.leads] at hf'; subst hf'; exact hFg
  · simp [invoke, go_sem, eg]
  · have walk : ∀ {A : World} {row : Option Nat}, (∀ r, row = some r → V.heap.size ≤ r ∧ ∃ o : Obj, A.heap[r]? = some o ∧ o.isWalk = true) → (∀ r, row = some r → w.heap.size ≤ r ∧ ∃ o : Obj, A.heap[r]? = some o ∧ o.isCells = false) :=
      fun hr r e => by obtain ⟨q, o, ho, hw⟩ := hr r e; exact ⟨by omega, o, ho, Obj.not_cells_of_walk hw⟩
    refine (hseq (w.heap.size + 1)
      (fun pre W => (∃ b, b ≤ W.heap.size ∧ I b pre W) ∧ W.heap[w.heap.size + 1]? = some (.loop (rc .ready none)) ∧ W.heap[w.heap.size]? = some (.deferred (some [])))
      (fun pre W => ∃ c, Ix c pre W ∧ W.heap[w.heap.size + 1]? = some (.loop (rc .done (some c))) ∧ W.heap[w.heap.size]? = some (.deferred (some []))) V vb
      (fun s A B row hs hg' hr => by
        obtain ⟨⟨b, hb, hi⟩, hl, hd⟩ := hs
        exact ⟨⟨b, Nat.le_trans hb hg'.size, hI b s A B row hi hg' (walk hr)⟩, (grownBy_keeps hg' (fun r e => (hr r e).2) hl rfl).trans hl, (grownBy_keeps hg' (fun r e => (hr r e).2) hd rfl).trans hd⟩)
      (fun s A B row hs hg' hr => by
        obtain ⟨c, hc, hl, hd⟩ := hs
        exact ⟨c, hIx c s A B row hc hg' (walk hr), (grownBy_keeps hg' (fun r e => (hr r e).2) hl rfl).trans hl, (grownBy_keeps hg' (fun r e => (hr r e).2) hd rfl).trans hd⟩)
      ?_ ⟨⟨_, by omega, vI⟩, vl, vd⟩).mono ?_
    · rintro pre x Wb W ⟨⟨b, hbW, hi0⟩, hl0, hd0⟩ hg0 hsz hlen
      have grow : ∀ {j : Nat} {o : Obj}, Wb.heap[j]? = some o → W.heap[j]? = some o := fun h => (hg0.block _ (Array.getElem?_eq_some_iff.1 h).1 (by simp)).trans h
      have hl := grow hl0
      have hd := grow hd0
      have hi : I b pre W := hI b pre Wb W none hi0 hg0 (fun r e => by cases e)
      have hbk : b + k ≤ W.heap.size := by omega
      have hy := run_yield (P := P) (args := encs x) hl (by rw [hrc]; exact hps x)
      rw [hrc] at hy
      refine ⟨fn, _, assign, body, hy, roundIn_of_wpIn hfn (hassign _ b pre x W _ hbk hi ?_)⟩
      clear hy
      intro a' U kf ui ua
      have ul := kf.same _ _ (by omega) hl rfl
      have ud := kf.same _ _ (Nat.le_refl _) hd rfl
      have ult : w.heap.size + 1 < U.heap.size := (Array.getElem?_eq_some_iff.1 ul).1
      refine ⟨_, run_beginRound ul (by rw [hrc]), ?_⟩
      obtain ⟨X, hX⟩ : ∃ X, X = U.putObj (w.heap.size + 1) (.loop { rc .ready none with state := .busy }) := ⟨_, rfl⟩
      have xl : X.heap[w.heap.size + 1]? = some (.loop { rc .ready none with state := .busy }) := by rw [hX]; exact World.putObj_heap_same ult
      have xd : X.heap[w.heap.size]? = some (.deferred (some [])) := by rw [hX]; exact (World.putObj_heap_other (by omega)).trans ud
      have xi : I b pre X := by rw [hX]; exact (hI b).putObj _ ui (by omega) ul rfl
      have xa : Ax W x a' X := by rw [hX]; exact hAx W x a' _ _ _ _ ua (by omega) ul rfl
      rw [← hX]
      refine wpIn_mono (hbody _ b pre x W a' X hbk xi xa hlen (by omega) ⟨_, xl⟩) ?_
      have fin : ∀ (jump : Option Code) (Y : World), KeepsFrom w.heap.size X Y →
          (Instr.endRound (w.heap.size + 1) jump).run P Y = .ok (.bool jump.isNone) (Y.putObj (w.heap.size + 1) (.loop (rc (if jump.isNone then .ready else .done) jump))) ∧
          Y.heap[w.heap.size + 1]? = some (.loop { rc .ready none with state := .busy }) ∧
          (Y.putObj (w.heap.size + 1) (.loop (rc (if jump.isNone then .ready else .done) jump))).heap[w.heap.size + 1]? = some (.loop (rc (if jump.isNone then .ready else .done) jump)) ∧
          (Y.putObj (w.heap.size + 1) (.loop (rc (if jump.isNone then .ready else .done) jump))).heap[w.heap.size]? = some (.deferred (some [])) := fun jump Y yk => by
        have yl := yk.same _ _ (by omega) xl rfl
        have he := run_endRound (P := P) jump yl
        rw [hrc] at he ⊢
        exact ⟨he, by rw [hrc] at yl; exact yl, World.putObj_heap_same (Array.getElem?_eq_some_iff.1 yl).1, (World.putObj_heap_other (by omega)).trans (yk.same _ _ (Nat.le_refl _) xd rfl)⟩
      rintro e a3 Y hp
      cases e with
      | normal =>
        obtain ⟨yf, yk, yi⟩ := hp
        obtain ⟨he, yl, zl, zd⟩ := fin none Y yf
        exact ⟨_, _, he, .inl ⟨rfl, ⟨⟨Y.heap.size, by simp, (hI _).putObj _ yi (by omega) yl rfl⟩, zl, zd⟩, yk.put yl rfl⟩⟩
      | ret =>
        obtain ⟨yf, yi⟩ := hp
        obtain ⟨he, yl, zl, zd⟩ := fin (some .ret) Y yf
        exact ⟨_, _, he, .inr ⟨rfl, .ret, (hIx _).putObj _ yi (by omega) yl rfl, zl, zd⟩⟩
      | exit id =>
        obtain ⟨yf, yi⟩ := hp
        obtain ⟨he, yl, zl, zd⟩ := fin (some (.exit id)) Y yf
        exact ⟨_, _, he, .inr ⟨rfl, .exit id, (hIx _).putObj _ yi (by omega) yl rfl, zl, zd⟩⟩
      | goto t =>
        obtain ⟨yf, yi⟩ := hp
        obtain ⟨he, yl, zl, zd⟩ := fin (some (.goto t)) Y yf
        exact ⟨_, _, he, .inr ⟨rfl, .goto t, (hIx _).putObj _ yi (by omega) yl rfl, zl, zd⟩⟩
      | panic ch => exact hp.elim
      | outgrown => exact hp.elim
    · rintro e Y ⟨⟨v, rfl⟩, (⟨xs, hS, ⟨b, hb, yi⟩, yl, yd⟩ | ⟨pre, hSp, c, yi, yl, yd⟩)⟩
      · have he := run_endLoop (P := P) yl (by rw [hrc]; simp)
        rw [hrc] at he
        exact ⟨none, _, he, hdone _ b xs _ (Nat.le_refl _) (by simpa using hb) hS ((hI b).putObj _ yi (by omega) yl rfl) ((World.putObj_heap_other (by omega)).trans yd)⟩
      · have he := run_endLoop (P := P) yl (by rw [hrc]; simp)
        rw [hrc] at he
        exact ⟨some c, _, he, hstop _ c pre _ (Nat.le_refl _) hSp ((hIx c).putObj _ yi (by omega) yl rfl) ((World.putObj_heap_other (by omega)).trans yd)⟩
theorem wpIn_rangeFunc_top {α : Type} {g : Operand} {ps : Array Tmp} {assign body : Code} {Q : Exit → Act → World → Prop} {a : Act} {w : World}
    (hro : F.round = none) (h1 : 1 ≤ n) {gf : Nat} {lb : Array Value} (hg : a.eval g = .func (.func gf) #[] lb) (hFg : F.fn gf) (eg : ∀ args w, (callFunc gf args).run P w = .ok (.enter gf args) w)
    {encs : α → Array Value} {k : Nat} {G : Nat → Prop} {S Sp : List α → Prop} {N : Nat} {w0 : World} (hseq : SeqTop k G F (n - 1) P gf lb encs S Sp N w0)
    (hb0 : Below w0.heap.size w0 w) (hps : ∀ x, (encs x).size = ps.size)
    (I : Nat → List α → World → Prop) (Ix : Code → List α → World → Prop) (hI : ∀ b, OwnFrom w.heap.size (I b)) (hIx : ∀ c, OwnFrom w.heap.size (Ix c)) (h0 : I w.heap.size [] w)
    (Ax : World → α → Act → World → Prop) (hAx : ∀ U x a', OwnFrom w.heap.size (fun (_ : Unit) W => Ax U x a' W))
    (hassign : ∀ (l b : Nat) (pre : List α) (x : α) (U : World) (K : Act → World → Prop), b + k ≤ U.heap.size → I b pre U → (∀ a' W', KeepsFrom w.heap.size U W' → I b pre W' → Ax U x a' W' → K a' W') →
      assign.wpIn (F.inRound l) (n - 1 - 1) P (Exit.then K (fun _ _ _ => False)) { tmps := (ps.zip (encs x)).foldl (fun t (p, v) => t.setIfInBounds p v) a.tmps, defers := [] } U)
    (hbody : ∀ (l b : Nat) (pre : List α) (x : α) (U : World) (a' : Act) (W : World), b + k ≤ U.heap.size → I b pre W → Ax U x a' W → pre.length < N → w.heap.size ≤ l → (∃ r, W.heap[l]? = some (.loop r)) → body.wpIn (F.inRound l) (n - 1 - 1) P (topPost w.heap.size k G I Ix (pre ++ [x]) U W) a' W)
    (hdone : ∀ (D b : Nat) (xs : List α) (W : World), w.heap.size ≤ D → b ≤ W.heap.size → S xs → I b xs W → W.heap[D]? = some (.deferred (some [])) → Q .normal { a with defers := { target := .collected D, args := #[] } :: a.defers } W)
    (hstop : ∀ (D : Nat) (c : Code) (pre : List α) (W : World), w.heap.size ≤ D → Sp pre → Ix c pre W → W.heap[D]? = some (.deferred (some [])) → c.wpIn F n P Q { a with defers := { target := .collected D, args := #[] } :: a.defers } W) :
    (Code.rangeFunc g ps assign body).wpIn F n P Q a w := 
  wpIn_rangeFunc_topP hro h1 hg hFg eg hseq hb0 hps I Ix hI hIx h0 Ax (fun U x a' _ _ _ o' h hl ho hc => (hAx U x a').putObj (s := ()) o' h hl ho hc) hassign hbody hdone hstop
end Go.Proofs.YtbaggjhjkignkaaDoor

