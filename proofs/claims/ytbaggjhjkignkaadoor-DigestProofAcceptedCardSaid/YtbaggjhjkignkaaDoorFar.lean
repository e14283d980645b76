/-
  As XTop, for an iterator that also lays q blocks of its own ahead of the first round, which every round must keep.
-/
import Derived.Test.YtbaggjhjkignkaaDoorTop
namespace Go.Proofs.YtbaggjhjkignkaaDoor
open Go.RowKit

/-- The blocks that a round must keep, besides the last ones: those in G, and the q first ones behind a place. -/
def farG (G : Nat → Prop) (at0 q : Nat) : Nat → Prop := fun j => G j ∨ (at0 ≤ j ∧ j < at0 + q)
/-- An iterator that lays q blocks ahead of the first round and reads them in every round; of the blocks that it lays between two rounds, it reads the last k behind the round; and it reads the blocks in G; d: how many calls deep it yields. -/
def SeqFar {α : Type} (d k q : Nat) (G : Nat → Prop) (F : Fence) (n : Nat) (P : Program) (g : Nat) (lb : Array Value) (encs : α → Array Value) (S Sp : List α → Prop) (N : Nat) (w : World) : Prop :=
  ∀ (l : Nat) (J : Nat → List α → World → Prop) (Jx : List α → World → Prop) (W : World), Below w.heap.size w W → (∀ b, OwnFrom W.heap.size (J b)) → OwnFrom W.heap.size Jx →
    (∀ b pre x W1, J b pre W1 → b + k ≤ W1.heap.size → W.heap.size + q ≤ W1.heap.size → pre.length < N → YieldAt F (n - d) P l (encs x) W1 fun e W' =>
      (e = .returned (.bool true) ∧ J W'.heap.size (pre ++ [x]) W' ∧ KeepsTop k (farG G W.heap.size q) W1 W' ∧ KeepsFrom W.heap.size W1 W') ∨ (e = .returned (.bool false) ∧ Jx (pre ++ [x]) W' ∧ KeepsFrom W.heap.size W1 W')) →
    J W.heap.size [] W → CallsIn F n P g (#[.func (.yield l) #[] #[]] ++ lb) W fun e W' => (∃ v, e = .returned v) ∧ ((∃ b xs, b ≤ W'.heap.size ∧ S xs ∧ J b xs W') ∨ (∃ pre, Sp pre ∧ Jx pre W'))

variable {F : Fence} {n : Nat} {P : Program}

theorem wpIn_rangeFunc_far {α : Type} {g : Operand} {ps : Array Tmp} {assign body : Code} {Q : Exit → Act → World → Prop} {a : Act} {w : World}
    (hro : F.round = none) (h1 : 1 ≤ n) {gf : Nat} {lb : Array Value} (hg : a.eval g = .func (.func gf) #[] lb) (hFg : F.fn gf) (eg : ∀ args w, (callFunc gf args).run P w = .ok (.enter gf args) w)
    {encs : α → Array Value} {d k q : Nat} {G : Nat → Prop} {S Sp : List α → Prop} {N : Nat} {w0 : World} (hseq : SeqFar d k q G F (n - 1) P gf lb encs S Sp N w0)
    (hb0 : Below w0.heap.size w0 w) (hps : ∀ x, (encs x).size = ps.size)
    (I : Nat → List α → World → Prop) (Ix : Code → List α → World → Prop) (hI : ∀ b, OwnFrom w.heap.size (I b)) (hIx : ∀ c, OwnFrom w.heap.size (Ix c)) (h0 : I w.heap.size [] w)
    (Ax : World → α → Act → World → Prop) (hAx : ∀ U x a', OwnFrom w.heap.size (fun (_ : Unit) W => Ax U x a' W))
    (hassign : ∀ (l b : Nat) (pre : List α) (x : α) (U : World) (K : Act → World → Prop), b + k ≤ U.heap.size → I b pre U → (∀ a' W', KeepsFrom w.heap.size U W' → I b pre W' → Ax U x a' W' → K a' W') →
      assign.wpIn (F.inRound l) (n - 1 - d) P (Exit.then K (fun _ _ _ => False)) { tmps := (ps.zip (encs x)).foldl (fun t (p, v) => t.setIfInBounds p v) a.tmps, defers := [] } U)
    (hbody : ∀ (l b : Nat) (pre : List α) (x : α) (U : World) (a' : Act) (W : World), b + k ≤ U.heap.size → w.heap.size + 2 + q ≤ U.heap.size → I b pre W → Ax U x a' W → pre.length < N → w.heap.size ≤ l → (∃ r, W.heap[l]? = some (.loop r)) → body.wpIn (F.inRound l) (n - 1 - d) P (topPost w.heap.size k (farG G (w.heap.size + 2) q) I Ix (pre ++ [x]) U W) a' W)
    (hdone : ∀ (D b : Nat) (xs : List α) (W : World), w.heap.size ≤ D → b ≤ W.heap.size → S xs → I b xs W → W.heap[D]? = some (.deferred (some [])) → Q .normal { a with defers := { target := .collected D, args := #[] } :: a.defers } W)
    (hstop : ∀ (D : Nat) (c : Code) (pre : List α) (W : World), w.heap.size ≤ D → Sp pre → Ix c pre W → W.heap[D]? = some (.deferred (some [])) → c.wpIn F n P Q { a with defers := { target := .collected D, args := #[] } :: a.defers } W) :
    (Code.rangeFunc g ps assign body).wpIn F n P Q a w := by
  refine wpIn_rangeFunc (fun fn hfn => ?_)
  rw [hro]
  obtain ⟨rc, hrc⟩ : ∃ rc : LoopState → Option Code → Loop, rc = fun st pe => { state := st, pending := pe, fn, tmps := a.tmps, params := ps, assign, body, defers := w.heap.size } := ⟨_, rfl⟩
  obtain ⟨V, hV⟩ : ∃ V, V = (w.alloc (.deferred (some []))).alloc (.loop (rc .ready none)) := ⟨_, rfl⟩
  have vs : V.heap.size = w.heap.size + 2 := by rw [hV]; simp
  have vl : V.heap[w.heap.size + 1]? = some (.loop (rc .ready none)) := by
    have e := World.alloc_heap_new (w.alloc (.deferred (some []))) (.loop (rc .ready none))
    rw [World.size_alloc] at e; rw [hV]; exact e
  have vd : V.heap[w.heap.size]? = some (.deferred (some [])) := by
    rw [hV]; exact (Below.heap_alloc _ _ _ (by simp)).trans (World.alloc_heap_new w _)
  have vI : I w.heap.size [] V := by rw [hV]; exact (hI _).alloc _ ((hI _).alloc _ h0)
  have vb : Below w0.heap.size w0 V := by
    rw [hV]; exact hb0.trans ((((Below.refl _ w).alloc (Nat.le_refl _) _).alloc (by simp) _).mono hb0.size)
  refine ⟨w.heap.size + 1, [{ target := .collected w.heap.size, args := #[] }], V, { target := .fn (.func gf) lb, args := #[.func (.yield (w.heap.size + 1)) #[] #[]] }, V, gf,
    #[.func (.yield (w.heap.size + 1)) #[] #[]] ++ lb, V, ?_, ?_, ?_, ?_, fun _ => h1, ?_⟩
  · rw [hV, hrc]; exact run_enterLoop_outer _ _ _ _ _
  · simp only [resolve, hg]
    simp [go_sem]
  · intro f' hf'; simp [Target.leads] at hf'; subst hf'; exact hFg
  · simp [invoke, go_sem, eg]
  · have walk : ∀ {A : World} {row : Option Nat}, (∀ r, row = some r → V.heap.size ≤ r ∧ ∃ o : Obj, A.heap[r]? = some o ∧ o.isCells = false) → (∀ r, row = some r → w.heap.size ≤ r ∧ ∃ o : Obj, A.heap[r]? = some o ∧ o.isCells = false) :=
      fun hr r e => ⟨by have := (hr r e).1; omega, (hr r e).2⟩
    have own : ∀ {A B : World} {row : Option Nat} {j : Nat} {o : Obj}, A.grownBy B row → (∀ r, row = some r → V.heap.size ≤ r ∧ ∃ o : Obj, A.heap[r]? = some o ∧ o.isCells = false) → j < V.heap.size → A.heap[j]? = some o → B.heap[j]? = some o :=
      fun hg' hr hj ho => (hg'.block _ (Array.getElem?_eq_some_iff.1 ho).1 (fun e => by have := (hr _ e.symm).1; omega)).trans ho
    refine (hseq (w.heap.size + 1)
      (fun b pre W => (∃ b', b' ≤ b ∧ I b' pre W) ∧ W.heap[w.heap.size + 1]? = some (.loop (rc .ready none)) ∧ W.heap[w.heap.size]? = some (.deferred (some [])))
      (fun pre W => ∃ c, Ix c pre W ∧ W.heap[w.heap.size + 1]? = some (.loop (rc .done (some c))) ∧ W.heap[w.heap.size]? = some (.deferred (some []))) V vb
      (fun _ s A B row hs hg' hr => by
        obtain ⟨⟨b, hb, hi⟩, hl, hd⟩ := hs
        exact ⟨⟨b, hb, hI b s A B row hi hg' (walk hr)⟩, own hg' hr (by omega) hl, own hg' hr (by omega) hd⟩)
      (fun s A B row hs hg' hr => by
        obtain ⟨c, hc, hl, hd⟩ := hs
        exact ⟨c, hIx c s A B row hc hg' (walk hr), own hg' hr (by omega) hl, own hg' hr (by omega) hd⟩)
      ?_ ⟨⟨_, by omega, vI⟩, vl, vd⟩).mono ?_
    · rintro b0 pre x W ⟨⟨b, hbW, hi⟩, hl, hd⟩ hsz hsq hlen
      rw [vs] at hsq ⊢
      have hbk : b + k ≤ W.heap.size := by omega
      have hy := run_yield (P := P) (args := encs x) hl (by rw [hrc]; exact hps x)
      rw [hrc] at hy
      refine ⟨fn, _, assign, body, hy, roundIn_of_wpIn hfn (hassign _ b pre x W _ hbk hi ?_)⟩
      clear hy
      intro a' U kf ui ua
      have ul := kf.same _ _ (by omega) hl rfl
      have ud := kf.same _ _ (Nat.le_refl _) hd rfl
      have ult : w.heap.size + 1 < U.heap.size := (Array.getElem?_eq_some_iff.1 ul).1
      refine ⟨_, run_beginRound ul (by rw [hrc]), ?_⟩
      obtain ⟨X, hX⟩ : ∃ X, X = U.putObj (w.heap.size + 1) (.loop { rc .ready none with state := .busy }) := ⟨_, rfl⟩
      have xl : X.heap[w.heap.size + 1]? = some (.loop { rc .ready none with state := .busy }) := by rw [hX]; exact World.putObj_heap_same ult
      have xd : X.heap[w.heap.size]? = some (.deferred (some [])) := by rw [hX]; exact (World.putObj_heap_other (by omega)).trans ud
      have xi : I b pre X := by rw [hX]; exact (hI b).putObj _ ui (by omega) ul rfl
      have xa : Ax W x a' X := by rw [hX]; exact (hAx W x a').putObj (s := ()) _ ua (by omega) ul rfl
      rw [← hX]
      refine wpIn_mono (hbody _ b pre x W a' X hbk hsq xi xa hlen (by omega) ⟨_, xl⟩) ?_
      have fin : ∀ (jump : Option Code) (Y : World), KeepsFrom w.heap.size X Y →
          (Instr.endRound (w.heap.size + 1) jump).run P Y = .ok (.bool jump.isNone) (Y.putObj (w.heap.size + 1) (.loop (rc (if jump.isNone then .ready else .done) jump))) ∧
          Y.heap[w.heap.size + 1]? = some (.loop { rc .ready none with state := .busy }) ∧
          (Y.putObj (w.heap.size + 1) (.loop (rc (if jump.isNone then .ready else .done) jump))).heap[w.heap.size + 1]? = some (.loop (rc (if jump.isNone then .ready else .done) jump)) ∧
          (Y.putObj (w.heap.size + 1) (.loop (rc (if jump.isNone then .ready else .done) jump))).heap[w.heap.size]? = some (.deferred (some [])) := fun jump Y yk => by
        have yl := yk.same _ _ (by omega) xl rfl
        have he := run_endRound (P := P) jump yl
        rw [hrc] at he ⊢
        exact ⟨he, by rw [hrc] at yl; exact yl, World.putObj_heap_same (Array.getElem?_eq_some_iff.1 yl).1, (World.putObj_heap_other (by omega)).trans (yk.same _ _ (Nat.le_refl _) xd rfl)⟩
      have kfr : ∀ {Y : World} {o9 : Obj}, KeepsFrom w.heap.size X Y → KeepsFrom (w.heap.size + 2) W (Y.putObj (w.heap.size + 1) o9) := fun {Y o9} hy =>
        ⟨by have h1 := hy.size; have h2 := kf.size; rw [hX] at h1; simp at h1 ⊢; omega, fun j o hB hj ho => by
          have hne : j ≠ w.heap.size + 1 := by omega
          have h1 := kf.same j o (by omega) hj ho
          have h2 : X.heap[j]? = some o := by rw [hX]; exact (World.putObj_heap_other hne).trans h1
          exact (World.putObj_heap_other hne).trans (hy.same j o (by omega) h2 ho)⟩
      rintro e a3 Y hp
      cases e with
      | normal =>
        obtain ⟨yf, yk, yi⟩ := hp
        obtain ⟨he, yl, zl, zd⟩ := fin none Y yf
        exact ⟨_, _, he, .inl ⟨rfl, ⟨⟨Y.heap.size, by simp, (hI _).putObj _ yi (by omega) yl rfl⟩, zl, zd⟩, yk.put yl rfl, kfr yf⟩⟩
      | ret =>
        obtain ⟨yf, yi⟩ := hp
        obtain ⟨he, yl, zl, zd⟩ := fin (some .ret) Y yf
        exact ⟨_, _, he, .inr ⟨rfl, ⟨.ret, (hIx _).putObj _ yi (by omega) yl rfl, zl, zd⟩, kfr yf⟩⟩
      | exit id =>
        obtain ⟨yf, yi⟩ := hp
        obtain ⟨he, yl, zl, zd⟩ := fin (some (.exit id)) Y yf
        exact ⟨_, _, he, .inr ⟨rfl, ⟨.exit id, (hIx _).putObj _ yi (by omega) yl rfl, zl, zd⟩, kfr yf⟩⟩
      | goto t =>
        obtain ⟨yf, yi⟩ := hp
        obtain ⟨he, yl, zl, zd⟩ := fin (some (.goto t)) Y yf
        exact ⟨_, _, he, .inr ⟨rfl, ⟨.goto t, (hIx _).putObj _ yi (by omega) yl rfl, zl, zd⟩, kfr yf⟩⟩
      | panic ch => exact hp.elim
      | outgrown => exact hp.elim
    · rintro e Y ⟨⟨v, rfl⟩, (⟨b0, xs, hb0', hS, ⟨b, hb, yi⟩, yl, yd⟩ | ⟨pre, hSp, c, yi, yl, yd⟩)⟩
      · have he := run_endLoop (P := P) yl (by rw [hrc]; simp)
        rw [hrc] at he
        exact ⟨none, _, he, hdone _ b xs _ (Nat.le_refl _) (by simpa using Nat.le_trans hb hb0') hS ((hI b).putObj _ yi (by omega) yl rfl) ((World.putObj_heap_other (by omega)).trans yd)⟩
      · have he := run_endLoop (P := P) yl (by rw [hrc]; simp)
        rw [hrc] at he
        exact ⟨some c, _, he, hstop _ c pre _ (Nat.le_refl _) hSp ((hIx c).putObj _ yi (by omega) yl rfl) ((World.putObj_heap_other (by omega)).trans yd)⟩
end Go.Proofs.YtbaggjhjkignkaaDoor

