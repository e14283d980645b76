/-
  Contract of the reference's Make: some valid flow in memory of its own.
-/
import Derived.Test.YtcaclijkkbhfhaaGreatDoorPick
import Derived.Deep.LoopGhost
import Derived.Deep.DeepCutAuto
import Derived.Deep.RegionLawGrows
import Derived.Deep.RegionLaw
import Derived.Deep.RegionHeld3
namespace Go.Proofs.YtcaclijkkbhfhaaGreatDoor
open Go.RowKit Go.Shelf

/-- What Make answers. -/
def MakePost (w : World) (e : Ending) (w' : World) : Prop := ∃ q : FlowP, e = .returned q.v ∧ q.ok w' ∧ Fl.valid q.f = true ∧ q.P.length ≤ 8 ∧ q.W.length ≤ 4 ∧ Below w.heap.size w w'
theorem six_list {y : List Int} (h : y.length = 6) : ∃ y0 y1 y2 y3 y4 y5, y = [y0, y1, y2, y3, y4, y5] := by
  match y, h with
  | [a, b, c, d, e, f], _ => exact ⟨a, b, c, d, e, f, rfl⟩
theorem fits_tdiv {x d : Int} (h : Fits x) (hd : 1 < d) : Fits (x.tdiv d) := by
  obtain ⟨h1, h2⟩ := h
  rcases Int.le_total 0 x with h0 | h0
  · rw [Int.tdiv_eq_ediv_of_nonneg h0]
    have := Int.ediv_nonneg h0 (by omega : (0 : Int) ≤ d)
    have := Int.ediv_le_self d h0
    constructor <;> omega
  · have e : x.tdiv d = -((-x) / d) := by rw [← Int.tdiv_eq_ediv_of_nonneg (by omega), Int.neg_tdiv, Int.neg_neg]
    rw [e]
    have := Int.ediv_nonneg (by omega : 0 ≤ -x) (by omega : (0 : Int) ≤ d)
    have := Int.ediv_le_self d (by omega : 0 ≤ -x)
    constructor <;> omega
theorem refPick_is (c n : Int) (hc : Fits c) (hn : 0 < n ∧ n ≤ 1000000000) (w : World) : Calls Tryz.prog 27 #[.int .i64 c, .int .i64 n] w fun e w' => e = .returned (.int .i64 (pickZ c n)) ∧ w' = w :=
  (refPick_any c n w hc hn).mono fun _ _ h => ⟨h.1, h.2.symm⟩
theorem block_cell {w : World} {b : Nat} {cs : Array Value} {t : TypeId} (h : w.heap[b]? = some (.cells cs t)) (j : Nat) (v : Value) (hv : cs[j]? = some v) : w.cell? ⟨b, j, none⟩ = some v := by simp [World.cell?, h, hv]
theorem wrap_fits {x : Int} (h : Fits x) : IntKind.i64.wrap x = x := IntWalk.i64_in _ (by obtain ⟨h1, h2⟩ := h; omega)
theorem three_list {y : List Int} (h : y.length = 3) : ∃ y0 y1 y2, y = [y0, y1, y2] := by
  match y, h with
  | [a, b, c], _ => exact ⟨a, b, c, rfl⟩
/-- Six integers in a block. -/
def Six (w : World) (b : Nat) : Prop := ∃ y0 y1 y2 y3 y4 y5 : Int, (∀ x ∈ [y0, y1, y2, y3, y4, y5], Fits x) ∧ w.heap[b]? = some (.cells #[.int .i64 y0, .int .i64 y1, .int .i64 y2, .int .i64 y3, .int .i64 y4, .int .i64 y5] 60)
theorem IntOwn.lit1 (w : World) (x : Int) {B : Nat} (hB : B ≤ w.heap.size) : IntOwn (w.alloc (.cells #[.int .i64 x] 3)) B (.slice (some ⟨w.heap.size, 0, none⟩) 1 1) [x] :=
  ⟨rfl, .inr ⟨w.heap.size, 1, _, rfl, hB, heap_alloc_new w _, Nat.le_refl _, by decide, rfl, by simp [intV]⟩⟩
/-- The tools that Make takes. -/
def Tl (a : Int) (l : List Int) : Prop := l = [a] ∨ ∃ b, l = [a, b] ∧ a < b ∧ b ≤ a + 3
theorem IntOwn.two {w : World} {B : Nat} {v : Value} {x y : Int} (h : w.ownsRow B 3 1 v (1 + 1) ([.int .i64 x] ++ [.int .i64 y])) : IntOwn w B v [x, y] := h
/-- The steps behind a step that Make takes. -/
def Nx (k n : Nat) (l : List Int) : Prop := l = [] ∨ k + 1 < n ∧ (l = [(k : Int) + 1] ∨ ∃ b : Int, l = [(k : Int) + 1, b] ∧ (k : Int) + 1 < b ∧ b < n)
/-- The step back that Make takes. -/
def Bk (k : Nat) (b l : Int) : Prop := (b = -1 ∧ l = 0) ∨ (0 ≤ b ∧ b ≤ k ∧ 1 ≤ l ∧ l ≤ 3)
/-- A step is filled beside the six integers that it is made of. -/
structure Fill (B F : Nat) (q : FlowP) (W : World) (S : Nat) (cs : Array Value) (own : List (Value × List Int)) (Y : Nat) (ys : Array Value) (w : World) : Prop where
  st : MkS B F q W S cs own w
  y : w.heap[Y]? = some (.cells ys 60)
theorem Fill.new {B F : Nat} {q : FlowP} {W w : World} {Y : Nat} {ys : Array Value} (h : Mk B F q W w) (hy : w.heap[Y]? = some (.cells ys 60)) (cs : Array Value) : Fill B F q W w.heap.size cs [] Y ys (w.alloc (.cells cs 55)).drew :=
  ⟨(MkS.new h cs).below (Below.refl _ _).drew, heap_alloc_old _ _ _ _ hy⟩
theorem Fill.below {B F : Nat} {q : FlowP} {W : World} {S : Nat} {cs : Array Value} {own : List (Value × List Int)} {Y : Nat} {ys : Array Value} {w w' : World} (h : Fill B F q W S cs own Y ys w) (hb : Below w.heap.size w w') : Fill B F q W S cs own Y ys w' :=
  ⟨h.st.below hb, (hb.block _ (lt_of_block h.y)).trans h.y⟩
theorem Fill.set {B F : Nat} {q : FlowP} {W : World} {S : Nat} {cs : Array Value} {own : List (Value × List Int)} {Y : Nat} {ys : Array Value} {w : World} (h : Fill B F q W S cs own Y ys w) (j : Nat) (u : Value) : Fill B F q W S (cs.setIfInBounds j u) own Y ys (w.setCell ⟨S, j, none⟩ u) :=
  ⟨h.st.set j u, by
    rw [Below.heap_setCell _ _ _ _ (by
      intro e0; simp only at e0; subst e0
      have h1 := h.st.box; rw [h.y] at h1; injection h1 with h1; injection h1 with _ h1; exact absurd h1 (by decide))]
    exact h.y⟩
theorem Fill.sub {B F : Nat} {q : FlowP} {W : World} {S : Nat} {cs : Array Value} {own own' : List (Value × List Int)} {Y : Nat} {ys : Array Value} {w : World} (h : Fill B F q W S cs own Y ys w) (ho : ∀ x ∈ own', x ∈ own) : Fill B F q W S cs own' Y ys w :=
  ⟨⟨h.st.base, h.st.box, h.st.sep, h.st.sepw, h.st.hS, fun x hx => h.st.own x (ho x hx)⟩, h.y⟩
theorem Fill.add {B F : Nat} {q : FlowP} {W : World} {S : Nat} {cs : Array Value} {own : List (Value × List Int)} {Y : Nat} {ys : Array Value} {w : World} (h : Fill B F q W S cs own Y ys w) {v : Value} {L : List Int} (hv : IntOwn w B v L) : Fill B F q W S cs ((v, L) :: own) Y ys w :=
  ⟨h.st.add hv, h.y⟩
theorem made_ok {n k : Nat} {p0 p1 p2 p3 bk lm : Int} {tl nx : List Int} (_ : n ≤ 8) (hk : k < n) (q0 : 0 ≤ p0) (q0' : p0 < 5) (q1 : 0 ≤ p1) (q1' : p1 < 30) (q2 : 0 ≤ p2) (q2' : p2 < 20) (q3 : 0 ≤ p3) (q3' : p3 < 6)
    (ht : Tl p3 tl) (hx : Nx k n nx) (hb : Bk k bk lm) : Fl.StepOk n ⟨1 + p0, tl, 1 + p1, 1 + p1 + p2, nx, bk, lm⟩ := by
  refine ⟨by show (1 : Int) ≤ 1 + p0 ∧ 1 + p0 ≤ 1000000; omega, ?_, ?_, by show (1 : Int) ≤ 1 + p1 ∧ 1 + p1 ≤ 1 + p1 + p2; omega, by show 1 + p1 + p2 ≤ 10000; omega, ?_, ?_, ?_⟩
  · rcases ht with rfl | ⟨b, rfl, h1, h2⟩ <;> simp
  · rcases ht with rfl | ⟨b, rfl, h1, h2⟩ <;> simp [Fl.asc] <;> omega
  · rcases hx with rfl | ⟨h0, rfl | ⟨b, rfl, h1, h2⟩⟩ <;> simp
  · rcases hx with rfl | ⟨h0, rfl | ⟨b, rfl, h1, h2⟩⟩ <;> simp [Fl.asc] <;> omega
  · show (bk = -1 ∧ lm = 0) ∨ (0 ≤ bk ∧ bk < n ∧ 1 ≤ lm ∧ lm ≤ 9)
    rcases hb with h | h
    · exact .inl h
    · right; omega
/-- The flow stands; its result box is written. -/
structure Done (B : Nat) (q : FlowP) (W w : World) : Prop where
  srow : w.ownsRow B 55 7 (.slice q.sa q.P.length q.sc) q.P.length (stepRow q.P)
  wrow : w.ownsRow B 58 3 (.slice q.wa q.W.length q.wc) q.W.length (winRow q.W)
  lists : ∀ p ∈ q.P, p.own w B
  rb : ∃ cs, w.heap[B]? = some (.cells cs 25)
  bel : Below B W w
theorem Done.of {B F : Nat} {q : FlowP} {W w : World} (h : Mk B F q W w) : Done B q W w := ⟨h.srow, h.wrow, h.lists, ⟨_, h.rb⟩, h.bel⟩
theorem Done.set {B : Nat} {q : FlowP} {W w : World} (h : Done B q W w) (j : Nat) (u : Value) : Done B q W (w.setCell ⟨B, j, none⟩ u) := by
  obtain ⟨cs, hb⟩ := h.rb
  have hg := grown_set (w := w) B j u
  have hr : ∀ e : TypeId, 25 ≠ e → ∀ k, (some B : Option Nat) = some k → ∃ cs e', w.heap[k]? = some (.cells cs e') ∧ e' ≠ e := fun e he k hk => by injection hk with hk; subst hk; exact ⟨_, _, hb, he⟩
  exact ⟨own_kept h.srow hg (hr _ (by decide)), own_kept h.wrow hg (hr _ (by decide)), fun p hp => ⟨(h.lists p hp).1.kept hg (hr _ (by decide)), (h.lists p hp).2.kept hg (hr _ (by decide))⟩, ⟨_, block_set hb u⟩, h.bel.trans ((Below.refl B w).setCell (p := ⟨B, j, none⟩) (Nat.le_refl B) u)⟩
theorem Done.ok {B : Nat} {q : FlowP} {W w : World} (h : Done B q W w) : q.ok w := ⟨stepsA_of h.srow h.lists, winsA_of h.wrow⟩
theorem made_valid {n : Nat} {r : FlowP} (h0 : r.least = 2) (h1 : r.most = 5) (hn : 1 ≤ n) (hn8 : n ≤ 8) (hl : r.P.length = n) (hp : ∀ p ∈ r.P, Fl.StepOk n p.s) (hw : r.W.length ≤ 4) (hv : Fl.vWinsFrom n none r.W = true) : Fl.valid r.f = true := by
  have hlen : (stepsOf r.P).length = n := by simp [stepsOf, hl]
  unfold Fl.valid FlowP.f
  simp only [hlen, h0, h1]
  rw [show Fl.vMoves 2 5 = true by decide, show decide (0 < n) = true from decide_eq_true hn]
  unfold Fl.vSteps Fl.vWins
  rw [hlen, hv]
  simp only [Bool.true_and, Bool.and_true, Bool.and_eq_true, decide_eq_true_eq, List.all_eq_true]
  refine ⟨⟨by omega, ?_⟩, by omega⟩
  intro s hs
  obtain ⟨p, hp1, rfl⟩ := List.mem_map.1 hs
  exact Fl.vStep_iff.2 (hp p hp1)
theorem refAfter_any (v u : Fl.Win) (w : World) : Calls Tryz.prog 28 #[winV v, winV u] w fun e w' => e = .returned (.bool (Fl.ahead v u)) ∧ Below w.heap.size w w' := by
  obtain ⟨x1, x2, x3⟩ := v; obtain ⟨y1, y2, y3⟩ := u
  rcases Int.lt_trichotomy x1 y1 with h | rfl | h
  · have E := Lib.hid (show Fl.ahead ⟨x1, x2, x3⟩ ⟨y1, y2, y3⟩ = true by simp [Fl.ahead, h])
    go_enter Tryz.func28, Tryz.ntmps28
    go_wp2_with fail
    go_ret
    exact ⟨ret_bool E.out.symm, below_step (below_new _ _) (below_new _ _)⟩
  · have E := Lib.hid (show Fl.ahead ⟨x1, x2, x3⟩ ⟨x1, y2, y3⟩ = decide (x2 < y2) by simp [Fl.ahead])
    go_enter Tryz.func28, Tryz.ntmps28
    go_wp2_with fail
    go_ret
    exact ⟨ret_bool E.out.symm, below_step (below_new _ _) (below_new _ _)⟩
  · have E := Lib.hid (show Fl.ahead ⟨x1, x2, x3⟩ ⟨y1, y2, y3⟩ = false by simp [Fl.ahead]; omega)
    have h1 : ¬ x1 < y1 := by omega
    have h2 : (x1 == y1) = false := by simp; omega
    clear h
    go_enter Tryz.func28, Tryz.ntmps28
    go_wp2_with fail
    go_ret
    exact ⟨ret_bool E.out.symm, below_step (below_new _ _) (below_new _ _)⟩
def lastW (o : Option Fl.Win) (L : List Fl.Win) : Option Fl.Win := L.foldl (fun _ x => some x) o
theorem lastW_get : ∀ (o : Option Fl.Win) (L : List Fl.Win) (h : 0 < L.length), lastW o L = some (L[L.length - 1])
  | _, [x], _ => rfl
  | o, x :: y :: L, _ => by
    rw [show lastW o (x :: y :: L) = lastW (some x) (y :: L) from rfl, lastW_get (some x) (y :: L) (by simp)]
    simp
theorem vWinsFrom_snoc {c : Int} {v : Fl.Win} : ∀ {o : Option Fl.Win} {L : List Fl.Win}, Fl.vWinsFrom c o L = true → Fl.vWin c v = true → (∀ u, lastW o L = some u → Fl.ahead u v = true) → Fl.vWinsFrom c o (L ++ [v]) = true
  | none, [], _, hv, _ => by simp [Fl.vWinsFrom, hv]
  | some u, [], _, hv, ha => by simp [Fl.vWinsFrom, hv, ha u rfl]
  | none, u :: L, h, hv, ha => by
    simp only [List.cons_append, Fl.vWinsFrom, Bool.and_eq_true] at h ⊢
    exact ⟨h.1, vWinsFrom_snoc h.2 hv ha⟩
  | some t, u :: L, h, hv, ha => by
    simp only [List.cons_append, Fl.vWinsFrom, Bool.and_eq_true] at h ⊢
    exact ⟨h.1, vWinsFrom_snoc h.2 hv ha⟩
theorem win_made {n : Nat} {v0 v1 v2 : Int} (q0 : 0 ≤ v0) (q0' : v0 < n) (q1 : 0 ≤ v1) (q1' : v1 < n) (q2 : 0 ≤ v2) (q2' : v2 < 150) (h : v0 ≠ v1) : Fl.vWin n ⟨v0, v1, 10 + v2⟩ = true := by
  unfold Fl.vWin
  simp only [Fl.within_iff, Bool.and_eq_true, decide_eq_true_eq]
  exact ⟨⟨⟨⟨q0, by omega⟩, ⟨q1, by omega⟩⟩, h⟩, ⟨by omega, by omega⟩⟩
theorem Mk.pushedW {B F : Nat} {q : FlowP} {W w1 w2 : World} (h1 : Mk B F q W w1) (v : Fl.Win) {g cap : Nat}
    (hown : w2.ownsRow B 58 3 (.slice (some ⟨g, 0, none⟩) (q.W.length + 1) cap) (q.W.length + 1) (winRow q.W ++ winCells v)) (hgrow : w1.grownBy w2 (Value.slice q.wa q.W.length q.wc).ownBlock) :
    w2.heap[F]? = some (flowBox q) ∧ Mk B F { q with W := q.W ++ [v], wa := some ⟨g, 0, none⟩, wc := cap } W (w2.setCell ⟨F, 3, none⟩ (.slice (some ⟨g, 0, none⟩) (q.W.length + 1) cap)) := by
  have hr : ∀ e : TypeId, 58 ≠ e → ∀ k, (Value.slice q.wa q.W.length q.wc).ownBlock = some k → ∃ cs e', w1.heap[k]? = some (.cells cs e') ∧ e' ≠ e := fun e he k hk => by
    obtain ⟨cs, hcs⟩ := own_block h1.wrow hk
    exact ⟨cs, _, hcs, he⟩
  have fb2 : w2.heap[F]? = some (flowBox q) := by
    rw [hgrow.block F (lt_of_block h1.fb) (fun e => by
      obtain ⟨cs, e', h3, h4⟩ := hr 25 (by decide) F e.symm
      rw [h1.fb] at h3; injection h3 with h3; injection h3 with _ h3; exact h4 h3.symm)]
    exact h1.fb
  have rb2 := (hgrow.block B (lt_of_block h1.rb) (fun e => by
      obtain ⟨cs, e', h3, h4⟩ := hr 25 (by decide) B e.symm
      rw [h1.rb] at h3; injection h3 with h3; injection h3 with _ h3; exact h4 h3.symm)).trans h1.rb
  have hset := grown_set (w := w2) F 3 (.slice (some ⟨g, 0, none⟩) (q.W.length + 1) cap)
  have hF2 : ∀ e : TypeId, 25 ≠ e → ∀ k, (some F : Option Nat) = some k → ∃ cs e', w2.heap[k]? = some (.cells cs e') ∧ e' ≠ e := fun e he k hk => by injection hk with hk; subst hk; exact ⟨_, _, fb2, he⟩
  have hlen : (q.W ++ [v]).length = q.W.length + 1 := by simp
  have own2 : ∀ {v : Value} {L : List Int}, IntOwn w1 B v L → IntOwn (w2.setCell ⟨F, 3, none⟩ (.slice (some ⟨g, 0, none⟩) (q.W.length + 1) cap)) B v L := fun h0 => (h0.kept hgrow (hr _ (by decide))).kept hset (hF2 _ (by decide))
  refine ⟨fb2, ⟨own_kept (own_kept h1.srow hgrow (hr _ (by decide))) hset (hF2 _ (by decide)), ?_, fun x hx => ⟨own2 (h1.lists x hx).1, own2 (h1.lists x hx).2⟩, ?_, ?_, ?_, h1.hF⟩⟩
  · simp only [hlen, winRow_snoc]; exact own_kept hown hset (hF2 _ (by decide))
  · rw [block_set fb2]; simp [flowBox]
  · rw [Below.heap_setCell _ _ _ _ (by have := h1.hF; show B ≠ F; omega)]; exact rb2
  · exact (h1.bel.trans ((Below.refl B w1).grown hgrow h1.size (fun k hk => (h1.wrow.lt k hk).1))).trans ((Below.refl _ _).setCell (Nat.le_of_lt h1.hF) _)
set_option maxRecDepth 100000 in
set_option maxHeartbeats 4000000 in
theorem Make_any (X : List (List Int)) (xa : Option Addr) (xc : Nat) (Y : List (List Int)) (ya : Option Addr) (yc : Nat) (w : World) (hX : ArrsA 6 w xa xc X) (hY : ArrsA 3 w ya yc Y) :
    Calls Tryz.prog 12 #[.slice xa X.length xc, .slice ya Y.length yc] w (MakePost w) := by
  have lx : X.length ≤ maxLen := Nat.le_trans hX.1 hX.2.1
  have ly : Y.length ≤ maxLen := Nat.le_trans hY.1 hY.2.1
  unfold maxLen at lx ly
  obtain ⟨n, hn⟩ : ∃ n : Nat, max 1 (min X.length 8) = n := ⟨_, rfl⟩
  have hn1 : 1 ≤ n := by omega
  have hn8 : n ≤ 8 := by omega
  have hm : max (1 : Int) (min (X.length : Int) 8) = (n : Int) := by omega
  have HX := Lib.hid hX; have HY := Lib.hid hY; have HN := Lib.hid hn
  clear hX hY hn
  go_enter Tryz.func12, Tryz.ntmps12
  go_wp2_with fail
  have M0 : Hid (Mk w.heap.size (w.heap.size + 1) ⟨2, 5, none, 0, [], none, 0, []⟩ w ((w.alloc (.cells #[.int .i64 0, .int .i64 0, .slice none 0 0, .slice none 0 0] 25)).alloc (.cells #[.int .i64 2, .int .i64 5, .slice none 0 0, .slice none 0 0] 25))) := Lib.hid (by
    refine ⟨World.ownsRow_nil _ _ _ _, World.ownsRow_nil _ _ _ _, (fun p hp => by cases hp), ?_, ?_, below_step (below_new _ _) (below_new _ _), by omega⟩
    · have := heap_alloc_new (w.alloc (.cells #[.int .i64 0, .int .i64 0, .slice none 0 0, .slice none 0 0] 25)) (.cells #[.int .i64 2, .int .i64 5, .slice none 0 0, .slice none 0 0] 25)
      rw [show (w.alloc (.cells #[.int .i64 0, .int .i64 0, .slice none 0 0, .slice none 0 0] 25)).heap.size = w.heap.size + 1 by simp] at this
      exact this
    · exact heap_alloc_old _ _ _ _ (heap_alloc_new _ _))
  generalize (w.alloc (.cells #[.int .i64 0, .int .i64 0, .slice none 0 0, .slice none 0 0] 25)).alloc (.cells #[.int .i64 2, .int .i64 5, .slice none 0 0, .slice none 0 0] 25) = wa at *
  go_loopg [7] n (fun g i wr => ∃ (k : Nat) (q : FlowP), k ≤ n ∧ g = n - k ∧ i = .int .i64 (k : Int) ∧ Hid (Mk w.heap.size (w.heap.size + 1) q w wr ∧ q.least = 2 ∧ q.most = 5 ∧ q.W = [] ∧ q.wa = none ∧ q.wc = 0 ∧ q.P.length = k ∧ ∀ p ∈ q.P, Fl.StepOk n p.s))
  case atStart => exact ⟨0, _, by omega, by omega, rfl, Lib.hid ⟨M0.out, rfl, rfl, rfl, rfl, rfl, rfl, fun p hp => by cases hp⟩⟩
  case round =>
    obtain ⟨k, q, hk, rfl, rfl, HQ⟩ := hrel
    by_cases hlt : k < n
    ·
      go_upto_if 28 with (fail)
      go_cut [8] (fun s8 wx => s8 = .pointer (some ⟨wr.heap.size, 0, none⟩) ∧ Hid (Six wx wr.heap.size ∧ Below wr.heap.size wr wx))
      case first =>
        by_cases h1 : k < X.length
        · obtain ⟨b, off, rfl, hb, hc⟩ := HX.out.2.2.2 k h1
          obtain ⟨hl, hf⟩ := HX.out.2.2.1 X[k] (List.getElem_mem h1)
          generalize X[k] = y at hc hl hf
          obtain ⟨y0, y1, y2, y3, y4, y5, rfl⟩ := six_list hl
          have hb' : b < wr.heap.size := Nat.lt_of_lt_of_le hb HQ.out.1.bel.size
          have hc' : ∀ (j : Nat) (v : Int), [y0, y1, y2, y3, y4, y5][j]? = some v → wr.cell? ⟨b, off + k * 6 + j, none⟩ = some (.int .i64 v) := fun j v hv => (HQ.out.1.bel.cell (p := ⟨b, _, none⟩) hb).trans (hc j v hv)
          have c0 : wr.cell? ⟨b, off + k * 6, none⟩ = some (.int .i64 y0) := hc' 0 y0 rfl
          have c1 := hc' 1 y1 rfl
          have c2 := hc' 2 y2 rfl
          have c3 := hc' 3 y3 rfl
          have c4 := hc' 4 y4 rfl
          have c5 := hc' 5 y5 rfl
          have HS := Lib.hid (show ∀ x ∈ [y0, y1, y2, y3, y4, y5], Fits x from hf)
          clear hc hc' hf hl
          go_wp2_with fail
          go_meet
          exact ⟨rfl, Lib.hid ⟨⟨y0, y1, y2, y3, y4, y5, HS.out, heap_alloc_new _ _⟩, below_new _ _⟩⟩
        · have HS := Lib.hid (show ∀ x ∈ [(0 : Int), 0, 0, 0, 0, 0], Fits x by decide)
          go_wp2_with fail
          go_meet
          exact ⟨rfl, Lib.hid ⟨⟨0, 0, 0, 0, 0, 0, HS.out, heap_alloc_new _ _⟩, below_new _ _⟩⟩
      case rest =>
        obtain ⟨rfl, HY6⟩ := hcut
        obtain ⟨⟨y0, y1, y2, y3, y4, y5, hy, h6⟩, hbel⟩ := HY6.out
        have HM := Lib.hid (HQ.out.1.below hbel)
        have HFY := Lib.hid hy
        have H6 := Lib.hid h6
        have P0 := Lib.hid (refPick_is y0 5 (hy _ (by simp)) (by omega))
        obtain ⟨q0, q0'⟩ := pickZ_bd (c := y0) (n := 5) (by omega)
        generalize pickZ y0 5 = p0 at *
        have P1 := Lib.hid (refPick_is y1 30 (hy _ (by simp)) (by omega))
        obtain ⟨q1, q1'⟩ := pickZ_bd (c := y1) (n := 30) (by omega)
        generalize pickZ y1 30 = p1 at *
        have P2 := Lib.hid (refPick_is (y1.tdiv 30) 20 (fits_tdiv (hy _ (by simp)) (by omega)) (by omega))
        obtain ⟨q2, q2'⟩ := pickZ_bd (c := y1.tdiv 30) (n := 20) (by omega)
        generalize pickZ (y1.tdiv 30) 20 = p2 at *
        have c0 := block_cell h6 0 _ rfl
        have c1 := block_cell h6 1 _ rfl
        have hlt6 := lt_of_block h6
        have HK : Hid (∀ v, Below wc.heap.size wc v → v.cell? ⟨wr.heap.size, 0, none⟩ = some (.int .i64 y0) ∧ v.cell? ⟨wr.heap.size, 1, none⟩ = some (.int .i64 y1)) := Lib.hid fun v hv => ⟨cell_below hv (block_cell h6 0 _ rfl), cell_below hv (block_cell h6 1 _ rfl)⟩
        have e0 : IntKind.i64.wrap (1 + p0) = 1 + p0 := IntWalk.i64_in _ (by omega)
        have e1 : IntKind.i64.wrap (1 + p1) = 1 + p1 := IntWalk.i64_in _ (by omega)
        have g2 : IntKind.i64.wrap (y1.tdiv 30) = y1.tdiv 30 := wrap_fits (fits_tdiv (hy _ (by simp)) (by omega))
        clear hy h6 HY6
        generalize wc = w6 at *
        go_upto_region 10 with (fail)
        go_cut [9] (fun s9 wx => s9 = .pointer (some ⟨w6.heap.size, 0, none⟩) ∧ Hid (wx = (w6.alloc (.cells #[.int .i64 (1 + p0), .slice none 0 0, .int .i64 (1 + p1), .int .i64 0, .slice none 0 0, .int .i64 (-1), .int .i64 0] 55)).drew))
        case first =>
          go_region_held3 (fun w' => w'.cell? ⟨wr.heap.size, 0, none⟩ = some (.int .i64 y0) ∧ w'.cell? ⟨wr.heap.size, 1, none⟩ = some (.int .i64 y1)) (first | with_reducible exact HK.out _ (Below.refl _ _).drew | with_reducible exact HK.out _ (below_new _ _).drew)
            ((go_at_call 27; first | ((with_reducible refine (P0.out _).mono ?_); rintro _ _ ⟨rfl, rfl⟩) | ((with_reducible refine (P1.out _).mono ?_); rintro _ _ ⟨rfl, rfl⟩)))
          all_goals
            go_wp2_with fail
            go_meet
            exact ⟨rfl, Lib.hid rfl⟩
        case rest =>
          obtain ⟨rfl, HW1⟩ := hcut
          have HF : Hid (Fill w.heap.size (w.heap.size + 1) q w w6.heap.size #[.int .i64 (1 + p0), .slice none 0 0, .int .i64 (1 + p1), .int .i64 0, .slice none 0 0, .int .i64 (-1), .int .i64 0] [] wr.heap.size #[.int .i64 y0, .int .i64 y1, .int .i64 y2, .int .i64 y3, .int .i64 y4, .int .i64 y5] wc) := Lib.hid (by
            rw [HW1.out]
            exact (Fill.new HM.out H6.out _))
          have hsz : w6.heap.size ≠ wr.heap.size := Nat.ne_of_gt hlt6
          clear HW1 HK e0 e1 P0 HM H6 hm
          generalize w6.heap.size = S at *
          generalize wr.heap.size = Z at *
          have b2 := block_cell HF.out.st.box 2 _ rfl
          have a1 := block_cell HF.out.y 1 _ rfl
          have z3 := box_fz HF.out.st.box 3
          have b3 := block_cell HF.out.st.box 3 _ rfl
          go_wp2_with fail
          go_still_tail 7, (by kernel_rfl)
          repeat still_step
          still_call (P2.out _)
          repeat still_step
          refine wpStill_nil ?_
          change wpList _ _ _ _ _ wc.drew
          go_upto_region 11 with (fail)
          have HF1 := Lib.hid ((HF.out.set 3 (.int .i64 (1 + p1 + p2))).below (Below.refl _ _).drew)
          clear b2 b3 a1 z3 HF P1 P2 g2
          generalize (wc.setCell ⟨S, 3, none⟩ (.int .i64 (1 + p1 + p2))).drew = wd at *
          have a2 := block_cell HF1.out.y 2 _ rfl
          have P3 := Lib.hid (refPick_is y2 6 (HFY.out _ (by simp)) (by omega))
          obtain ⟨q3, q3'⟩ := pickZ_bd (c := y2) (n := 6) (by omega)
          generalize pickZ y2 6 = p3 at *
          go_wp2_with fail
          refine (P3.out _).mono ?_; rintro e wd ⟨rfl, rfl⟩
          go_upto_region 12 with (fail)
          have z1 := box_fz HF1.out.st.box 1
          have b1 := block_cell HF1.out.st.box 1 _ rfl
          have hS := lt_of_block HF1.out.st.box
          go_upto_region 13 with (fail)
          have hsq : (wd.setCell ⟨S, 1, none⟩ (.slice (some ⟨wd.heap.size, 0, none⟩) 1 1)).heap.size = wd.heap.size := by simp
          have HF2 := HF1.out.set 1 (.slice (some ⟨wd.heap.size, 0, none⟩) 1 1)
          generalize wd.heap.size = L1 at *
          generalize wd.setCell ⟨S, 1, none⟩ (.slice (some ⟨L1, 0, none⟩) 1 1) = we at *
          have HL := IntOwn.lit1 we p3 HF2.st.base.size
          have HF3 := Lib.hid ((HF2.below (below_new we (.cells #[.int .i64 p3] 3))).add HL)
          have HLc := Lib.hid (block_cell (heap_alloc_new we (.cells #[.int .i64 p3] 3)) 0 _ rfl)
          rw [hsq] at HF3 HLc
          clear HF2 HL hsq
          generalize we.alloc (.cells #[.int .i64 p3] 3) = wd at *
          clear a2 z1 b1 hS HF1 P3
          have a2 := block_cell HF3.out.y 2 _ rfl
          have P4 := Lib.hid (refPick_is (y2.tdiv 6) 2 (fits_tdiv (HFY.out _ (by simp)) (by omega)) (by omega))
          have g4 : IntKind.i64.wrap (y2.tdiv 6) = y2.tdiv 6 := wrap_fits (fits_tdiv (HFY.out _ (by simp)) (by omega))
          generalize pickZ (y2.tdiv 6) 2 = p4 at *
          have P5 := Lib.hid (refPick_is (y2.tdiv 12) 3 (fits_tdiv (HFY.out _ (by simp)) (by omega)) (by omega))
          have g5 : IntKind.i64.wrap (y2.tdiv 12) = y2.tdiv 12 := wrap_fits (fits_tdiv (HFY.out _ (by simp)) (by omega))
          obtain ⟨q5, q5'⟩ := pickZ_bd (c := y2.tdiv 12) (n := 3) (by omega)
          generalize pickZ (y2.tdiv 12) 3 = p5 at *
          go_wp2_with fail
          refine (P4.out _).mono ?_; rintro e wd ⟨rfl, rfl⟩
          go_upto_if 60 with (fail)
          go_cut [10] (fun s10 wx => s10 = .int .i64 p3 ∧ Hid (∃ tl ta tc, Tl p3 tl ∧ Fill w.heap.size (w.heap.size + 1) q w S #[.int .i64 (1 + p0), .slice ta tl.length tc, .int .i64 (1 + p1), .int .i64 (1 + p1 + p2), .slice none 0 0, .int .i64 (-1), .int .i64 0] [(.slice ta tl.length tc, tl)] Z #[.int .i64 y0, .int .i64 y1, .int .i64 y2, .int .i64 y3, .int .i64 y4, .int .i64 y5] wx))
          case first =>
            by_cases h4 : p4 = 0
            · have h4' : (p4 == 0) = true := by simp [h4]
              clear h4
              have b1 := block_cell HF3.out.st.box 1 _ rfl
              have a2a := cell_below (below_new wd (.cells #[.int .i64 (p3 + 1 + p5)] 3)) a2
              have b1a := cell_below (below_new wd (.cells #[.int .i64 (p3 + 1 + p5)] 3)) b1
              have hlS := lt_of_block HF3.out.st.box
              have HWA := Lib.hid (below_new wd (.cells #[.int .i64 (p3 + 1 + p5)] 3)).drew
              have HO : Hid (∀ b, some (⟨L1, 0, none⟩ : Addr) = some b → ∀ j u, [Value.int .i64 p3][j]? = some u → ((wd.alloc (.cells #[.int .i64 (p3 + 1 + p5)] 3)).drew).cell? (b.add j) = some u) := Lib.hid (by
                intro b hb j u hu
                injection hb with hb; subst hb
                cases j with
                | zero => injection hu with hu; subst hu; exact cell_below HWA.out HLc.out
                | succ j => simp at hu)
              have HNW : Hid (∀ j u, [Value.int .i64 (p3 + 1 + p5)][j]? = some u → ((wd.alloc (.cells #[.int .i64 (p3 + 1 + p5)] 3)).drew).cell? ((⟨wd.heap.size, 0, none⟩ : Addr).add j) = some u) := Lib.hid (World.news_of_block (cs := #[.int .i64 (p3 + 1 + p5)]) (t := 3) (fr := (0, 0)) (heap_alloc_new wd _))
              have HG : Hid (∀ w', ((wd.alloc (.cells #[.int .i64 (p3 + 1 + p5)] 3)).drew).grownBy w' none → Below wd.heap.size wd w') := Lib.hid (fun w' hg => HWA.out.grown hg HWA.out.size (fun k e => by cases e))
              obtain ⟨i0, hi, hz0, hz1, hz2⟩ := info_parts info_int
              have hwB : w.heap.size ≤ (wd.alloc (.cells #[.int .i64 (p3 + 1 + p5)] 3)).drew.heap.size := Nat.le_trans HF3.out.st.base.size HWA.out.size
              have e6 : IntKind.i64.wrap (p3 + 1) = p3 + 1 := IntWalk.i64_in _ (by omega)
              have e7 : IntKind.i64.wrap (p3 + 1 + p5) = p3 + 1 + p5 := IntWalk.i64_in _ (by omega)
              go_wp2_with fail
              go_region_law (first | (refine step_append_grows (by rfl) _ _ _ (by rfl) 3 i0 _ 1 8 Tryz.underlying50 hi hz0 hz1 hz2 rfl (by decide) (some ⟨L1, 0, none⟩) 1 1 [.int .i64 p3] (by rfl) (by simp) rfl HO.out ⟨wd.heap.size, 0, none⟩ 1 1 [.int .i64 (p3 + 1 + p5)] (by rfl) (by rfl) HNW.out (by simp [Value.oneCell']) (by decide) (by unfold maxLen; omega) (by omega) ?_; intro v' w3 hown hgrow; have hO2 := IntOwn.mono (IntOwn.two hown) hwB; obtain ⟨ta, tc, rfl, hA2, -⟩ := hO2.arg; clear hA2 hown; have hG := HG.out w3 hgrow; have FF := HF3.out.below hG; have z1 := box_fz FF.st.box 1; have b1 := block_cell FF.st.box 1 _ rfl) | (go_simp; go_at_call 27; (with_reducible refine (P5.out _).mono ?_); rintro _ _ ⟨rfl, rfl⟩))
              all_goals
                have F := Lib.hid (((FF.add hO2).sub (own' := [(.slice ta 2 tc, [p3, p3 + 1 + p5])]) (fun x hx => by rw [List.mem_singleton] at hx; subst hx; exact List.mem_cons_self)).set 1 (.slice ta 2 tc))
                clear z1 b1 FF hG hO2 hgrow
                generalize w3.setCell ⟨S, 1, none⟩ (.slice ta 2 tc) = w4 at *
                go_wp2_with fail
                go_meet
                exact ⟨rfl, Lib.hid ⟨[p3, p3 + 1 + p5], ta, tc, .inr ⟨_, rfl, by omega, by omega⟩, F.out⟩⟩
            · have h4' : (p4 == 0) = false := by simp [h4]
              clear h4
              go_wp2_with fail
              go_meet
              exact ⟨rfl, Lib.hid ⟨[p3], _, _, .inl rfl, HF3.out⟩⟩
          case rest =>
            obtain ⟨rfl, HT⟩ := hcut
            obtain ⟨tl, ta, tc, htl, hFi⟩ := HT.out
            have HTl := Lib.hid htl; have HF4 := Lib.hid hFi
            clear htl hFi HT HF3 HLc P4 g4 P5 g5 a2 q5 q5'
            have a3 := block_cell HF4.out.y 3 _ rfl
            have P6 := Lib.hid (refPick_is y3 12 (HFY.out _ (by simp)) (by omega))
            generalize pickZ y3 12 = p6 at *
            have e8 : IntKind.i64.wrap ((n : Int) - 1) = (n : Int) - 1 := IntWalk.i64_in _ (by omega)
            generalize wc = wf at *
            go_upto_region 15 with (fail)
            go_cut [82] (fun s82 wx => ∃ b : Bool, s82 = .bool b ∧ Hid (b = true → k + 1 < n) ∧ wx = wf)
            case first =>
              by_cases h5 : (k : Int) < (n : Int) - 1
              · go_wp2_with fail
                refine (P6.out _).mono ?_; rintro e wf ⟨rfl, rfl⟩
                go_wp2_with fail
                go_meet
                exact ⟨_, rfl, Lib.hid (fun _ => by omega), rfl⟩
              · go_wp2_with fail
                go_meet
                exact ⟨_, rfl, Lib.hid (fun h => by cases h), rfl⟩
            case rest =>
              obtain ⟨b, rfl, HB, hwc⟩ := hcut
              subst hwc
              go_upto_if 82 with (fail)
              go_cut [10] (fun s10 wx => s10 = .int .i64 p3 ∧ Hid (∃ nx na nc, Nx k n nx ∧ Fill w.heap.size (w.heap.size + 1) q w S #[.int .i64 (1 + p0), .slice ta tl.length tc, .int .i64 (1 + p1), .int .i64 (1 + p1 + p2), .slice na nx.length nc, .int .i64 (-1), .int .i64 0] [(.slice na nx.length nc, nx), (.slice ta tl.length tc, tl)] Z #[.int .i64 y0, .int .i64 y1, .int .i64 y2, .int .i64 y3, .int .i64 y4, .int .i64 y5]  wx))
              case first =>
                cases b
                · go_wp2_with fail
                  go_meet
                  exact ⟨rfl, Lib.hid ⟨[], none, 0, .inl rfl, HF4.out.add (World.ownsRow_nil _ _ _ _)⟩⟩
                · have hkn := HB.out rfl
                  clear HB P6 e8
                  have b4 := block_cell HF4.out.st.box 4 _ rfl
                  have z4 := box_fz HF4.out.st.box 4
                  have hS := lt_of_block HF4.out.st.box
                  have e9 : IntKind.i64.wrap ((k : Int) + 1) = (k : Int) + 1 := IntWalk.i64_in _ (by omega)
                  go_upto_region 17 with (fail)
                  have hsq : (wc.setCell ⟨S, 4, none⟩ (.slice (some ⟨wc.heap.size, 0, none⟩) 1 1)).heap.size = wc.heap.size := by simp
                  have HF5 := HF4.out.set 4 (.slice (some ⟨wc.heap.size, 0, none⟩) 1 1)
                  generalize wc.heap.size = L4 at *
                  generalize wc.setCell ⟨S, 4, none⟩ (.slice (some ⟨L4, 0, none⟩) 1 1) = we at *
                  have HL := IntOwn.lit1 we ((k : Int) + 1) HF5.st.base.size
                  have HF6 := Lib.hid ((HF5.below (below_new we (.cells #[.int .i64 ((k : Int) + 1)] 3))).add HL)
                  have HLc := Lib.hid (block_cell (heap_alloc_new we (.cells #[.int .i64 ((k : Int) + 1)] 3)) 0 _ rfl)
                  rw [hsq] at HF6 HLc
                  clear HF5 HL hsq b4 z4 hS HF4 a3
                  generalize we.alloc (.cells #[.int .i64 ((k : Int) + 1)] 3) = wf at *
                  have a3 := block_cell HF6.out.y 3 _ rfl
                  have P7 := Lib.hid (refPick_is (y3.tdiv 12) 3 (fits_tdiv (HFY.out _ (by simp)) (by omega)) (by omega))
                  have g7 : IntKind.i64.wrap (y3.tdiv 12) = y3.tdiv 12 := wrap_fits (fits_tdiv (HFY.out _ (by simp)) (by omega))
                  obtain ⟨q7, q7'⟩ := pickZ_bd (c := y3.tdiv 12) (n := 3) (by omega)
                  generalize pickZ (y3.tdiv 12) 3 = p7 at *
                  have P8 := Lib.hid (refPick_is (y3.tdiv 36) 3 (fits_tdiv (HFY.out _ (by simp)) (by omega)) (by omega))
                  have g8 : IntKind.i64.wrap (y3.tdiv 36) = y3.tdiv 36 := wrap_fits (fits_tdiv (HFY.out _ (by simp)) (by omega))
                  generalize pickZ (y3.tdiv 36) 3 = p8 at *
                  have e10 : IntKind.i64.wrap ((k : Int) + 2) = (k : Int) + 2 := IntWalk.i64_in _ (by omega)
                  have e11 : IntKind.i64.wrap ((k : Int) + 2 + p7) = (k : Int) + 2 + p7 := IntWalk.i64_in _ (by omega)
                  go_wp2_with fail
                  refine (P7.out _).mono ?_; rintro e wf ⟨rfl, rfl⟩
                  by_cases h7 : (k : Int) + 2 + p7 < (n : Int)
                  · go_wp2_with fail
                    refine (P8.out _).mono ?_; rintro e wf ⟨rfl, rfl⟩
                    by_cases h8 : p8 = 0
                    · have h8' : (p8 == 0) = true := by simp [h8]
                      clear h8
                      have b4 := block_cell HF6.out.st.box 4 _ rfl
                      have z4 := box_fz HF6.out.st.box 4
                      have hS := lt_of_block HF6.out.st.box
                      have HWA := Lib.hid (below_new wf (.cells #[.int .i64 ((k : Int) + 2 + p7)] 3))
                      have HO : Hid (∀ b, some (⟨L4, 0, none⟩ : Addr) = some b → ∀ j u, [Value.int .i64 ((k : Int) + 1)][j]? = some u → (wf.alloc (.cells #[.int .i64 ((k : Int) + 2 + p7)] 3)).cell? (b.add j) = some u) := Lib.hid (by
                        intro b hb j u hu
                        injection hb with hb; subst hb
                        cases j with
                        | zero => injection hu with hu; subst hu; exact cell_below HWA.out HLc.out
                        | succ j => simp at hu)
                      have HNW : Hid (∀ j u, [Value.int .i64 ((k : Int) + 2 + p7)][j]? = some u → (wf.alloc (.cells #[.int .i64 ((k : Int) + 2 + p7)] 3)).cell? ((⟨wf.heap.size, 0, none⟩ : Addr).add j) = some u) := Lib.hid (World.news_of_block (cs := #[.int .i64 ((k : Int) + 2 + p7)]) (t := 3) (fr := (0, 0)) (heap_alloc_new wf _))
                      have hwB : w.heap.size ≤ wf.heap.size + 1 := Nat.le_succ_of_le HF6.out.st.base.size
                      obtain ⟨i0, hi, hz0, hz1, hz2⟩ := info_parts info_int
                      go_wp2_with (at_builtin; refine wpList_append_grows _ rfl _ _ _ rfl 3 i0 (.int .i64 0) 1 8 Tryz.underlying50 hi hz0 hz1 hz2 rfl (by decide) (some ⟨L4, 0, none⟩) 1 1 [.int .i64 ((k : Int) + 1)] rfl (by simp) rfl HO.out ⟨wf.heap.size, 0, none⟩ 1 1 [.int .i64 ((k : Int) + 2 + p7)] rfl rfl HNW.out (by simp [Value.oneCell']) (by decide) (by unfold maxLen; omega) (by omega) ?_)
                      intro v' w3 hown hgrow
                      have hO2 := IntOwn.mono (IntOwn.two hown) hwB
                      obtain ⟨na, nc, rfl, hA2, -⟩ := hO2.arg
                      have hG := HWA.out.grown hgrow HWA.out.size (fun k e => by cases e)
                      have FF := HF6.out.below hG
                      clear hA2 hown b4 z4 a3 hwB
                      have b4 := block_cell FF.st.box 4 _ rfl
                      have z4 := box_fz FF.st.box 4
                      have F := Lib.hid (((FF.add hO2).sub (own' := [(.slice na 2 nc, [(k : Int) + 1, (k : Int) + 2 + p7]), (.slice ta tl.length tc, tl)]) (fun x hx => by simp at hx; rcases hx with rfl | rfl <;> simp)).set 4 (.slice na 2 nc))
                      clear FF hG hO2 hgrow
                      go_wp2_with fail
                      clear b4 z4
                      go_meet
                      exact ⟨rfl, Lib.hid ⟨[(k : Int) + 1, (k : Int) + 2 + p7], na, nc, .inr ⟨hkn, .inr ⟨_, rfl, by omega, by omega⟩⟩, F.out⟩⟩
                    · have h8' : (p8 == 0) = false := by simp [h8]
                      clear h8
                      go_wp2_with fail
                      go_meet
                      exact ⟨rfl, Lib.hid ⟨[(k : Int) + 1], _, _, .inr ⟨hkn, .inl rfl⟩, HF6.out⟩⟩
                  · go_wp2_with fail
                    go_meet
                    exact ⟨rfl, Lib.hid ⟨[(k : Int) + 1], _, _, .inr ⟨hkn, .inl rfl⟩, HF6.out⟩⟩
              case rest =>
                obtain ⟨rfl, HN7⟩ := hcut
                obtain ⟨nx, na, nc, hnx, hFi⟩ := HN7.out
                have HNx := Lib.hid hnx; have HF7 := Lib.hid hFi
                clear hnx hFi HN7 HF4 P6 HB a3 e8
                have a4 := block_cell HF7.out.y 4 _ rfl
                have P9 := Lib.hid (refPick_is y4 4 (HFY.out _ (by simp)) (by omega))
                generalize pickZ y4 4 = p9 at *
                have P10 := Lib.hid (refPick_is (y4.tdiv 4) ((k : Int) + 1) (fits_tdiv (HFY.out _ (by simp)) (by omega)) (by omega))
                have g10 : IntKind.i64.wrap (y4.tdiv 4) = y4.tdiv 4 := wrap_fits (fits_tdiv (HFY.out _ (by simp)) (by omega))
                obtain ⟨q10, q10'⟩ := pickZ_bd (c := y4.tdiv 4) (n := (k : Int) + 1) (by omega)
                generalize pickZ (y4.tdiv 4) ((k : Int) + 1) = p10 at *
                have P11 := Lib.hid (refPick_is y5 3 (HFY.out _ (by simp)) (by omega))
                obtain ⟨q11, q11'⟩ := pickZ_bd (c := y5) (n := 3) (by omega)
                generalize pickZ y5 3 = p11 at *
                have e9 : IntKind.i64.wrap ((k : Int) + 1) = (k : Int) + 1 := IntWalk.i64_in _ (by omega)
                have e12 : IntKind.i64.wrap (1 + p11) = 1 + p11 := IntWalk.i64_in _ (by omega)
                generalize wc = wf at *
                go_wp2_with fail
                refine (P9.out _).mono ?_; rintro e wf ⟨rfl, rfl⟩
                go_upto_if 113 with (fail)
                go_cut [9] (fun s9 wx => s9 = .pointer (some ⟨S, 0, none⟩) ∧ Hid (∃ bk lm : Int, Bk k bk lm ∧ Fill w.heap.size (w.heap.size + 1) q w S #[.int .i64 (1 + p0), .slice ta tl.length tc, .int .i64 (1 + p1), .int .i64 (1 + p1 + p2), .slice na nx.length nc, .int .i64 bk, .int .i64 lm] [(.slice na nx.length nc, nx), (.slice ta tl.length tc, tl)] Z #[.int .i64 y0, .int .i64 y1, .int .i64 y2, .int .i64 y3, .int .i64 y4, .int .i64 y5]  wx))
                case first =>
                  by_cases h9 : p9 = 0
                  · have h9' : (p9 == 0) = true := by simp [h9]
                    clear h9
                    have b5 := block_cell HF7.out.st.box 5 _ rfl
                    have z5 := box_fz HF7.out.st.box 5
                    go_wp2_with fail
                    refine (P10.out _).mono ?_; rintro e wf ⟨rfl, rfl⟩
                    go_upto_region 22 with (fail)
                    have HF8 := Lib.hid (HF7.out.set 5 (.int .i64 p10))
                    clear b5 z5 HF7 a4
                    generalize wf.setCell ⟨S, 5, none⟩ (.int .i64 p10) = wf at *
                    have a5 := block_cell HF8.out.y 5 _ rfl
                    have b6 := block_cell HF8.out.st.box 6 _ rfl
                    have z6 := box_fz HF8.out.st.box 6
                    go_wp2_with fail
                    refine (P11.out _).mono ?_; rintro e wf ⟨rfl, rfl⟩
                    go_wp2_with fail
                    go_meet
                    exact ⟨rfl, Lib.hid ⟨p10, 1 + p11, .inr ⟨by omega, by omega, by omega, by omega⟩, HF8.out.set 6 _⟩⟩
                  · have h9' : (p9 == 0) = false := by simp [h9]
                    clear h9
                    go_wp2_with fail
                    go_meet
                    exact ⟨rfl, Lib.hid ⟨-1, 0, .inl ⟨rfl, rfl⟩, HF7.out⟩⟩
                case rest =>
                  obtain ⟨rfl, HB7⟩ := hcut
                  obtain ⟨bk, lm, hbk, hFi⟩ := HB7.out
                  have HBk := Lib.hid hbk; have HF9 := Lib.hid hFi
                  clear hbk hFi HB7 HF7 P9 P10 P11 a4 g10 e9 e12 q10 q10' q11 q11'
                  generalize wc = wf at *
                  obtain ⟨p, hpp⟩ : ∃ p : StepP, p = ⟨⟨1 + p0, tl, 1 + p1, 1 + p1 + p2, nx, bk, lm⟩, ta, tc, na, nc⟩ := ⟨_, rfl⟩
                  have HP : Hid (p.own wf w.heap.size) := Lib.hid (by rw [hpp]; exact ⟨HF9.out.st.own (.slice ta tl.length tc, tl) (by simp), HF9.out.st.own (.slice na nx.length nc, nx) (by simp)⟩)
                  have HPC : Hid (p.cells = [.int .i64 (1 + p0), .slice ta tl.length tc, .int .i64 (1 + p1), .int .i64 (1 + p1 + p2), .slice na nx.length nc, .int .i64 bk, .int .i64 lm]) := Lib.hid (by cases hpp; rfl)
                  have HPS : Hid (Fl.StepOk n p.s) := Lib.hid (by
                    rw [hpp]
                    exact made_ok hn8 (HQ.out.2.2.2.2.2.2.1 ▸ hlt) q0 q0' q1 q1' q2 q2' q3 q3' HTl.out HNx.out HBk.out)
                  clear hpp
                  have HWA := Lib.hid (below_new wf (.cells #[.int .i64 (1 + p0), .slice ta tl.length tc, .int .i64 (1 + p1), .int .i64 (1 + p1 + p2), .slice na nx.length nc, .int .i64 bk, .int .i64 lm] 55))
                  have HO := Lib.hid (own_below HF9.out.st.base.srow HWA.out)
                  have HNW : Hid (∀ j u, ([.int .i64 (1 + p0), .slice ta tl.length tc, .int .i64 (1 + p1), .int .i64 (1 + p1 + p2), .slice na nx.length nc, .int .i64 bk, .int .i64 lm])[j]? = some u → (wf.alloc (.cells #[.int .i64 (1 + p0), .slice ta tl.length tc, .int .i64 (1 + p1), .int .i64 (1 + p1 + p2), .slice na nx.length nc, .int .i64 bk, .int .i64 lm] 55)).cell? ((⟨wf.heap.size, 0, none⟩ : Addr).add j) = some u) := Lib.hid (World.news_of_block (cs := #[.int .i64 (1 + p0), .slice ta tl.length tc, .int .i64 (1 + p1), .int .i64 (1 + p1 + p2), .slice na nx.length nc, .int .i64 bk, .int .i64 lm]) (t := 55) (fr := (0, 0)) (heap_alloc_new wf _))
                  have HPu : Hid (∀ g cap w2, w2.ownsRow w.heap.size 55 7 (.slice (some ⟨g, 0, none⟩) (q.P.length + 1) cap) (q.P.length + 1) (stepRow q.P ++ [.int .i64 (1 + p0), .slice ta tl.length tc, .int .i64 (1 + p1), .int .i64 (1 + p1 + p2), .slice na nx.length nc, .int .i64 bk, .int .i64 lm]) → (wf.alloc (.cells #[.int .i64 (1 + p0), .slice ta tl.length tc, .int .i64 (1 + p1), .int .i64 (1 + p1 + p2), .slice na nx.length nc, .int .i64 bk, .int .i64 lm] 55)).grownBy w2 (Value.slice q.sa q.P.length q.sc).ownBlock → _) := Lib.hid fun g cap w2 h1 h2 => HF9.out.st.pushed (g := g) (cap := cap) (w2 := w2) HWA.out p HP.out (by rw [HPC.out]; exact h1) h2
                  have hBs := HF9.out.st.base.size
                  have hpl : q.P.length = k := HQ.out.2.2.2.2.2.2.1
                  have HPL := Lib.hid hpl; clear hpl
                  have f2 := block_cell HF9.out.st.base.fb 2 _ rfl
                  have b0 := block_cell HF9.out.st.box 0 _ rfl
                  have b1 := block_cell HF9.out.st.box 1 _ rfl
                  have b2 := block_cell HF9.out.st.box 2 _ rfl
                  have b3 := block_cell HF9.out.st.box 3 _ rfl
                  have b4 := block_cell HF9.out.st.box 4 _ rfl
                  have b5 := block_cell HF9.out.st.box 5 _ rfl
                  have b6 := block_cell HF9.out.st.box 6 _ rfl
                  obtain ⟨i0, hi, hz0, hz1, hz2⟩ := info_parts info_step
                  go_wp2_with (at_builtin; refine wpList_append_lies _ rfl _ _ _ rfl w.heap.size 55 i0 _ 7 88 Tryz.underlying22 hi hz0 hz1 hz2 rfl (by decide) (.slice q.sa q.P.length q.sc) q.P.length (stepRow q.P) rfl HO.out ⟨wf.heap.size, 0, none⟩ 1 1 [.int .i64 (1 + p0), .slice ta tl.length tc, .int .i64 (1 + p1), .int .i64 (1 + p1 + p2), .slice na nx.length nc, .int .i64 bk, .int .i64 lm] rfl rfl HNW.out (by simp [Value.oneCell']) (by decide) ?c1 ?c2 ?c3 (wf.heap.size + 1) (by simp) ?_)
                  case c1 => have := HPL.out; unfold maxLen; omega
                  case c2 => have := HPL.out; omega
                  case c3 => simp; omega
                  intro g cap w2 hown hgrow hat hl2
                  have F := Lib.hid (HPu.out g cap w2 hown hgrow)
                  clear hown hgrow hat f2 b0 b1 b2 b3 b4 b5 b6
                  have f2 := block_cell F.out.1 2 _ rfl
                  have z2 := box_fz F.out.1 2
                  have e9 : IntKind.i64.wrap ((k : Int) + 1) = (k : Int) + 1 := IntWalk.i64_in _ (by omega)
                  go_wp2_with fail
                  clear f2 z2
                  generalize w2.setCell ⟨w.heap.size + 1, 2, none⟩ (.slice (some ⟨g, 0, none⟩) (q.P.length + 1) cap) = w3 at *
                  go_roundg (n - (k + 1))
                  case rel =>
                    obtain ⟨m0, m1, m2, m3, m4, m5, m6, m7⟩ := HQ.out
                    exact ⟨k + 1, { q with P := q.P ++ [p], sa := some ⟨g, 0, none⟩, sc := cap }, hlt, rfl, by go_num, Lib.hid ⟨F.out.2, m1, m2, m3, m4, m5, by simp [m6], fun x hx => by
                      rcases List.mem_append.1 hx with hx | hx
                      · exact m7 x hx
                      · rw [List.mem_singleton] at hx; subst hx; exact HPS.out⟩⟩
                  case measure => omega

    · have hkn : n ≤ k := by omega
      go_wp2_with fail
      go_loopg [12] 4 (fun g i w2 => ∃ (j : Nat) (r : FlowP), j ≤ 4 ∧ j ≤ Y.length ∧ g = 4 - j ∧ i = .int .i64 (j : Int) ∧ Hid (Mk w.heap.size (w.heap.size + 1) r w w2 ∧ r.least = 2 ∧ r.most = 5 ∧ r.P = q.P ∧ r.W.length ≤ j ∧ Fl.vWinsFrom n none r.W = true))
      case atStart =>
        obtain ⟨m0, m1, m2, m3, m4, m5, m6, m7⟩ := HQ.out
        exact ⟨0, q, by omega, by omega, rfl, rfl, Lib.hid ⟨m0, m1, m2, rfl, by rw [m3]; simp, by rw [m3]; rfl⟩⟩
      case round =>
        obtain ⟨j, r, hj, hjY, rfl, rfl, HR⟩ := hrel
        by_cases hlj : j < Y.length
        · by_cases hl4 : j < 4
          · obtain ⟨b, off, rfl, hb, hc⟩ := HY.out.2.2.2 j hlj
            obtain ⟨hl, hf⟩ := HY.out.2.2.1 Y[j] (List.getElem_mem hlj)
            generalize Y[j] = y at hc hl hf
            obtain ⟨y0, y1, y2, rfl⟩ := three_list hl
            have hb' : b < wr.heap.size := Nat.lt_of_lt_of_le hb HR.out.1.bel.size
            have hc' : ∀ (i : Nat) (v : Int), [y0, y1, y2][i]? = some v → wr.cell? ⟨b, off + j * 3 + i, none⟩ = some (.int .i64 v) := fun i v hv => (HR.out.1.bel.cell (p := ⟨b, _, none⟩) hb).trans (hc i v hv)
            have c0 : wr.cell? ⟨b, off + j * 3, none⟩ = some (.int .i64 y0) := hc' 0 y0 rfl
            have c1 := hc' 1 y1 rfl
            have c2 := hc' 2 y2 rfl
            have HK : Hid (∀ v, Below wr.heap.size wr v → v.cell? ⟨b, off + j * 3, none⟩ = some (.int .i64 y0) ∧ v.cell? ⟨b, off + j * 3 + 1, none⟩ = some (.int .i64 y1) ∧ v.cell? ⟨b, off + j * 3 + 2, none⟩ = some (.int .i64 y2)) := Lib.hid fun v hv => ⟨cell_below hv c0, cell_below hv c1, cell_below hv c2⟩
            have P0 := Lib.hid (refPick_is y0 n (hf _ (by simp)) (by omega))
            obtain ⟨q0, q0'⟩ := pickZ_bd (c := y0) (n := n) (by omega)
            generalize pickZ y0 n = v0 at *
            have P1 := Lib.hid (refPick_is y1 n (hf _ (by simp)) (by omega))
            obtain ⟨q1, q1'⟩ := pickZ_bd (c := y1) (n := n) (by omega)
            generalize pickZ y1 n = v1 at *
            have P2 := Lib.hid (refPick_is y2 150 (hf _ (by simp)) (by omega))
            obtain ⟨q2, q2'⟩ := pickZ_bd (c := y2) (n := 150) (by omega)
            generalize pickZ y2 150 = v2 at *
            have e0 : IntKind.i64.wrap (10 + v2) = 10 + v2 := IntWalk.i64_in _ (by omega)
            clear hc hc' hf hl
            go_upto_region 28 with (fail)
            go_cut [13] (fun s13 wx => s13 = .pointer (some ⟨wr.heap.size, 0, none⟩) ∧ Hid (wx = (wr.alloc (.cells #[.int .i64 v0, .int .i64 v1, .int .i64 (10 + v2)] 58)).drew))
            case first =>
              go_region_held3 (fun w' => w'.cell? ⟨b, off + j * 3, none⟩ = some (.int .i64 y0) ∧ w'.cell? ⟨b, off + j * 3 + 1, none⟩ = some (.int .i64 y1) ∧ w'.cell? ⟨b, off + j * 3 + 2, none⟩ = some (.int .i64 y2)) (first | with_reducible exact HK.out _ (Below.refl _ _).drew | with_reducible exact HK.out _ (below_new _ _).drew)
                ((go_at_call 27; first | ((with_reducible refine (P0.out _).mono ?_); rintro _ _ ⟨rfl, rfl⟩) | ((with_reducible refine (P1.out _).mono ?_); rintro _ _ ⟨rfl, rfl⟩) | ((with_reducible refine (P2.out _).mono ?_); rintro _ _ ⟨rfl, rfl⟩)))
              all_goals
                go_wp2_with fail
                go_meet
                exact ⟨rfl, Lib.hid rfl⟩
            case rest =>
              obtain ⟨rfl, HW1⟩ := hcut
              have hM : Mk w.heap.size (w.heap.size + 1) r w wc := by rw [HW1.out]; exact HR.out.1.below (below_new _ _).drew
              have hbx : wc.heap[wr.heap.size]? = some (.cells #[.int .i64 v0, .int .i64 v1, .int .i64 (10 + v2)] 58) := by rw [HW1.out]; exact heap_alloc_new _ _
              have HM := Lib.hid hM; have HBX := Lib.hid hbx
              clear hM hbx HW1 HK P0 P1 P2 c0 c1 c2 e0 hb'
              generalize wr.heap.size = Sw at *
              have f3 := block_cell HM.out.fb 3 _ rfl
              go_upto_region 29 with (fail)
              go_cut [185] (fun s185 wx => ∃ bb : Bool, s185 = .bool bb ∧ Hid (bb = true → v0 ≠ v1 ∧ (∀ u, lastW none r.W = some u → Fl.ahead u ⟨v0, v1, 10 + v2⟩ = true)) ∧ Hid (Below wc.heap.size wc wx))
              case first =>
                have b0 := block_cell HBX.out 0 _ rfl
                have b1 := block_cell HBX.out 1 _ rfl
                have b2 := block_cell HBX.out 2 _ rfl
                have HK : Hid (∀ v, Below wc.heap.size wc v → v.cell? ⟨Sw, 0, none⟩ = some (.int .i64 v0) ∧ v.cell? ⟨Sw, 1, none⟩ = some (.int .i64 v1) ∧ v.cell? ⟨Sw, 2, none⟩ = some (.int .i64 (10 + v2)) ∧ v.cell? ⟨w.heap.size + 1, 3, none⟩ = some (.slice r.wa r.W.length r.wc) ∧ Below wc.heap.size wc v) := Lib.hid fun v hv => ⟨cell_below hv b0, cell_below hv b1, cell_below hv b2, cell_below hv f3, hv⟩
                by_cases h1 : v0 = v1
                · have h1' : (v0 != v1) = false := by simp [h1]
                  clear h1
                  refine wp_region_held_drew (S := (fun v => v.cell? ⟨Sw, 0, none⟩ = some (.int .i64 v0) ∧ v.cell? ⟨Sw, 1, none⟩ = some (.int .i64 v1) ∧ v.cell? ⟨Sw, 2, none⟩ = some (.int .i64 (10 + v2)) ∧ v.cell? ⟨w.heap.size + 1, 3, none⟩ = some (.slice r.wa r.W.length r.wc) ∧ Below wc.heap.size wc v)) (by kernel_rfl) (HK.out _ (Below.refl _ _).drew) (fun hHeld => ?_)
                  refine wpAnyH_take (i := 0) (oi := { dst := some 167, op := Op.fieldAddr 58 (Operand.tmp 13) 0, type := 0, pos := "ref.go:328", after := #[], guard := none }) (v := ?vm0) rfl (by kernel_rfl) (by kernel_rfl) (by kernel_rfl) (fun _ _ _ h => h) (Or.inl ⟨by rfl, ?ym0⟩) (by assumption) ?tm0
                  case ym0 => (intro w hSw; try dsimp only at hSw); go_simp; try with_reducible rfl
                  simp only [Act.put, List.setIfInBounds_toArray, List.set_cons_zero, List.set_cons_succ]
                  refine wpAnyH_take (i := 1) (oi := { dst := some 168, op := Op.load 3 (Operand.tmp 167), type := 3, pos := "ref.go:328", after := #[{ on := 0, ground := Ground.data }], guard := none }) (v := ?vm1) rfl (by kernel_rfl) (by kernel_rfl) (by kernel_rfl) (fun _ _ _ h => h) (Or.inl ⟨by rfl, ?ym1⟩) (by assumption) ?tm1
                  case ym1 => (intro w hSw; try dsimp only at hSw); go_simp; try with_reducible rfl
                  simp only [Act.put, List.setIfInBounds_toArray, List.set_cons_zero, List.set_cons_succ]
                  refine wpAnyH_take (i := 2) (oi := { dst := some 169, op := Op.fieldAddr 58 (Operand.tmp 13) 1, type := 0, pos := "ref.go:328", after := #[], guard := none }) (v := ?vm2) rfl (by kernel_rfl) (by kernel_rfl) (by kernel_rfl) (fun _ _ _ h => h) (Or.inl ⟨by rfl, ?ym2⟩) (by assumption) ?tm2
                  case ym2 => (intro w hSw; try dsimp only at hSw); go_simp; try with_reducible rfl
                  simp only [Act.put, List.setIfInBounds_toArray, List.set_cons_zero, List.set_cons_succ]
                  refine wpAnyH_take (i := 3) (oi := { dst := some 170, op := Op.load 3 (Operand.tmp 169), type := 3, pos := "ref.go:328", after := #[{ on := 2, ground := Ground.data }], guard := none }) (v := ?vm3) rfl (by kernel_rfl) (by kernel_rfl) (by kernel_rfl) (fun _ _ _ h => h) (Or.inl ⟨by rfl, ?ym3⟩) (by assumption) ?tm3
                  case ym3 => (intro w hSw; try dsimp only at hSw); go_simp; try with_reducible rfl
                  simp only [Act.put, List.setIfInBounds_toArray, List.set_cons_zero, List.set_cons_succ]
                  refine wpAnyH_take (i := 4) (oi := { dst := some 171, op := Op.binOp BinOp.neq 3 (Operand.tmp 168) (Operand.tmp 170) 3, type := 4, pos := "ref.go:328", after := #[{ on := 1, ground := Ground.data }, { on := 3, ground := Ground.data }], guard := none }) (v := ?vm4) rfl (by kernel_rfl) (by kernel_rfl) (by kernel_rfl) (fun _ _ _ h => h) (Or.inl ⟨by rfl, ?ym4⟩) (by assumption) ?tm4
                  case ym4 => (intro w hSw; try dsimp only at hSw); go_simp; try with_reducible rfl
                  simp only [Act.put, List.setIfInBounds_toArray, List.set_cons_zero, List.set_cons_succ]
                  refine wpAnyH_take (i := 5) (oi := { dst := some 172, op := Op.move (Operand.tmp 171), type := 4, pos := "ref.go:328", after := #[{ on := 4, ground := Ground.data }], guard := none }) (v := ?vm5) rfl (by kernel_rfl) (by kernel_rfl) (by kernel_rfl) (fun _ _ _ h => h) (Or.inl ⟨by rfl, ?ym5⟩) (by assumption) ?tm5
                  case ym5 => (intro w hSw; try dsimp only at hSw); go_simp; try with_reducible rfl
                  simp only [Act.put, List.setIfInBounds_toArray, List.set_cons_zero, List.set_cons_succ]
                  refine wpAnyH_take (i := 6) (oi := { dst := some 173, op := Op.move (Operand.tmp 14), type := 3, pos := "ref.go:328", after := #[{ on := 5, ground := Ground.guard }], guard := some (5, true) }) (v := undef) rfl (by kernel_rfl) (by kernel_rfl) (by kernel_rfl) (fun _ _ _ h => h) (Or.inr ⟨by rfl, rfl⟩) (by assumption) ?_
                  simp only [Act.put, List.setIfInBounds_toArray, List.set_cons_zero, List.set_cons_succ]
                  refine wpAnyH_take (i := 7) (oi := { dst := some 174, op := Op.binOp BinOp.eql 3 (Operand.tmp 173) (Operand.const (Value.int IntKind.i64 0)) 3, type := 4, pos := "ref.go:328", after := #[{ on := 6, ground := Ground.data }, { on := 5, ground := Ground.guard }], guard := some (5, true) }) (v := undef) rfl (by kernel_rfl) (by kernel_rfl) (by kernel_rfl) (fun _ _ _ h => h) (Or.inr ⟨by rfl, rfl⟩) (by assumption) ?_
                  simp only [Act.put, List.setIfInBounds_toArray, List.set_cons_zero, List.set_cons_succ]
                  refine wpAnyH_take (i := 8) (oi := { dst := some 175, op := Op.move (Operand.tmp 174), type := 4, pos := "ref.go:328", after := #[{ on := 7, ground := Ground.data }, { on := 5, ground := Ground.chain }, { on := 5, ground := Ground.guard }], guard := some (5, true) }) (v := undef) rfl (by kernel_rfl) (by kernel_rfl) (by kernel_rfl) (fun _ _ _ h => h) (Or.inr ⟨by rfl, rfl⟩) (by assumption) ?_
                  simp only [Act.put, List.setIfInBounds_toArray, List.set_cons_zero, List.set_cons_succ]
                  refine wpAnyH_take (i := 9) (oi := { dst := some 176, op := Op.fieldAddr 25 (Operand.tmp 6) 3, type := 0, pos := "ref.go:328", after := #[{ on := 8, ground := Ground.guard }], guard := some (8, false) }) (v := undef) rfl (by kernel_rfl) (by kernel_rfl) (by kernel_rfl) (fun _ _ _ h => h) (Or.inr ⟨by rfl, rfl⟩) (by assumption) ?_
                  simp only [Act.put, List.setIfInBounds_toArray, List.set_cons_zero, List.set_cons_succ]
                  refine wpAnyH_take (i := 10) (oi := { dst := some 177, op := Op.load 23 (Operand.tmp 176), type := 23, pos := "ref.go:328", after := #[{ on := 9, ground := Ground.data }, { on := 8, ground := Ground.guard }], guard := some (8, false) }) (v := undef) rfl (by kernel_rfl) (by kernel_rfl) (by kernel_rfl) (fun _ _ _ h => h) (Or.inr ⟨by rfl, rfl⟩) (by assumption) ?_
                  simp only [Act.put, List.setIfInBounds_toArray, List.set_cons_zero, List.set_cons_succ]
                  refine wpAnyH_take (i := 11) (oi := { dst := some 178, op := Op.move (Operand.tmp 14), type := 3, pos := "ref.go:328", after := #[{ on := 8, ground := Ground.guard }], guard := some (8, false) }) (v := undef) rfl (by kernel_rfl) (by kernel_rfl) (by kernel_rfl) (fun _ _ _ h => h) (Or.inr ⟨by rfl, rfl⟩) (by assumption) ?_
                  simp only [Act.put, List.setIfInBounds_toArray, List.set_cons_zero, List.set_cons_succ]
                  refine wpAnyH_take (i := 12) (oi := { dst := some 179, op := Op.binOp BinOp.sub 3 (Operand.tmp 178) (Operand.const (Value.int IntKind.i64 1)) 3, type := 3, pos := "ref.go:328", after := #[{ on := 11, ground := Ground.data }, { on := 8, ground := Ground.guard }], guard := some (8, false) }) (v := undef) rfl (by kernel_rfl) (by kernel_rfl) (by kernel_rfl) (fun _ _ _ h => h) (Or.inr ⟨by rfl, rfl⟩) (by assumption) ?_
                  simp only [Act.put, List.setIfInBounds_toArray, List.set_cons_zero, List.set_cons_succ]
                  refine wpAnyH_take (i := 13) (oi := { dst := some 180, op := Op.indexAddr 23 (Operand.tmp 177) (Operand.tmp 179), type := 0, pos := "ref.go:328", after := #[{ on := 10, ground := Ground.data }, { on := 12, ground := Ground.data }, { on := 8, ground := Ground.guard }], guard := some (8, false) }) (v := undef) rfl (by kernel_rfl) (by kernel_rfl) (by kernel_rfl) (fun _ _ _ h => h) (Or.inr ⟨by rfl, rfl⟩) (by assumption) ?_
                  simp only [Act.put, List.setIfInBounds_toArray, List.set_cons_zero, List.set_cons_succ]
                  refine wpAnyH_take (i := 14) (oi := { dst := some 181, op := Op.load 58 (Operand.tmp 180), type := 58, pos := "ref.go:328", after := #[{ on := 13, ground := Ground.data }, { on := 8, ground := Ground.guard }], guard := some (8, false) }) (v := undef) rfl (by kernel_rfl) (by kernel_rfl) (by kernel_rfl) (fun _ _ _ h => h) (Or.inr ⟨by rfl, rfl⟩) (by assumption) ?_
                  simp only [Act.put, List.setIfInBounds_toArray, List.set_cons_zero, List.set_cons_succ]
                  refine wpAnyH_take (i := 15) (oi := { dst := some 182, op := Op.load 58 (Operand.tmp 13), type := 58, pos := "ref.go:328", after := #[{ on := 8, ground := Ground.guard }], guard := some (8, false) }) (v := undef) rfl (by kernel_rfl) (by kernel_rfl) (by kernel_rfl) (fun _ _ _ h => h) (Or.inr ⟨by rfl, rfl⟩) (by assumption) ?_
                  simp only [Act.put, List.setIfInBounds_toArray, List.set_cons_zero, List.set_cons_succ]
                  refine wpAnyH_take (i := 16) (oi := { dst := some 183, op := Op.call { callee := Callee.value (Operand.func 28), args := #[Operand.tmp 181, Operand.tmp 182], argTypes := #[58, 58] }, type := 4, pos := "ref.go:328", after := #[{ on := 14, ground := Ground.data }, { on := 15, ground := Ground.data }, { on := 8, ground := Ground.chain }, { on := 8, ground := Ground.guard }], guard := some (8, false) }) (v := undef) rfl (by kernel_rfl) (by kernel_rfl) (by kernel_rfl) (fun _ _ _ h => h) (Or.inr ⟨by rfl, rfl⟩) (by assumption) ?_
                  simp only [Act.put, List.setIfInBounds_toArray, List.set_cons_zero, List.set_cons_succ]
                  refine wpAnyH_take (i := 17) (oi := { dst := some 184, op := Op.pick (Operand.tmp 175) (Operand.const (Value.bool true)) (Operand.tmp 183), type := 4, pos := "ref.go:328", after := #[{ on := 8, ground := Ground.data }, { on := 16, ground := Ground.data }, { on := 5, ground := Ground.guard }], guard := some (5, true) }) (v := undef) rfl (by kernel_rfl) (by kernel_rfl) (by kernel_rfl) (fun _ _ _ h => h) (Or.inr ⟨by rfl, rfl⟩) (by assumption) ?_
                  simp only [Act.put, List.setIfInBounds_toArray, List.set_cons_zero, List.set_cons_succ]
                  refine wpAnyH_take (i := 18) (oi := { dst := some 185, op := Op.pick (Operand.tmp 172) (Operand.tmp 184) (Operand.const (Value.bool false)), type := 4, pos := "ref.go:328", after := #[{ on := 5, ground := Ground.data }, { on := 17, ground := Ground.data }], guard := none }) (v := ?vm18) rfl (by kernel_rfl) (by kernel_rfl) (by kernel_rfl) (fun _ _ _ h => h) (Or.inl ⟨by rfl, ?ym18⟩) (by assumption) ?tm18
                  case ym18 => (intro w hSw; try dsimp only at hSw); go_simp; try with_reducible rfl
                  simp only [Act.put, List.setIfInBounds_toArray, List.set_cons_zero, List.set_cons_succ]
                  refine wpAnyH_done (by kernel_rfl) ?_ _
                  go_wp2_with fail
                  go_meet
                  exact ⟨false, rfl, Lib.hid (fun h => by cases h), Lib.hid hHeld.2.2.2.2⟩
                · have h1' : (v0 != v1) = true := by simp [h1]
                  have HNE := Lib.hid h1; clear h1
                  by_cases hW : r.W.length = 0
                  · have h2' : ((r.W.length : Int) == 0) = true := by simp [hW]
                    have HW0 := Lib.hid hW; clear hW
                    refine wp_region_held_drew (S := (fun v => v.cell? ⟨Sw, 0, none⟩ = some (.int .i64 v0) ∧ v.cell? ⟨Sw, 1, none⟩ = some (.int .i64 v1) ∧ v.cell? ⟨Sw, 2, none⟩ = some (.int .i64 (10 + v2)) ∧ v.cell? ⟨w.heap.size + 1, 3, none⟩ = some (.slice r.wa r.W.length r.wc) ∧ Below wc.heap.size wc v)) (by kernel_rfl) (HK.out _ (Below.refl _ _).drew) (fun hHeld => ?_)
                    refine wpAnyH_take (i := 0) (oi := { dst := some 167, op := Op.fieldAddr 58 (Operand.tmp 13) 0, type := 0, pos := "ref.go:328", after := #[], guard := none }) (v := ?vo0) rfl (by kernel_rfl) (by kernel_rfl) (by kernel_rfl) (fun _ _ _ h => h) (Or.inl ⟨by rfl, ?yo0⟩) (by assumption) ?to0
                    case yo0 => (intro w hSw; try dsimp only at hSw); go_simp; try with_reducible rfl
                    simp only [Act.put, List.setIfInBounds_toArray, List.set_cons_zero, List.set_cons_succ]
                    refine wpAnyH_take (i := 1) (oi := { dst := some 168, op := Op.load 3 (Operand.tmp 167), type := 3, pos := "ref.go:328", after := #[{ on := 0, ground := Ground.data }], guard := none }) (v := ?vo1) rfl (by kernel_rfl) (by kernel_rfl) (by kernel_rfl) (fun _ _ _ h => h) (Or.inl ⟨by rfl, ?yo1⟩) (by assumption) ?to1
                    case yo1 => (intro w hSw; try dsimp only at hSw); go_simp; try with_reducible rfl
                    simp only [Act.put, List.setIfInBounds_toArray, List.set_cons_zero, List.set_cons_succ]
                    refine wpAnyH_take (i := 2) (oi := { dst := some 169, op := Op.fieldAddr 58 (Operand.tmp 13) 1, type := 0, pos := "ref.go:328", after := #[], guard := none }) (v := ?vo2) rfl (by kernel_rfl) (by kernel_rfl) (by kernel_rfl) (fun _ _ _ h => h) (Or.inl ⟨by rfl, ?yo2⟩) (by assumption) ?to2
                    case yo2 => (intro w hSw; try dsimp only at hSw); go_simp; try with_reducible rfl
                    simp only [Act.put, List.setIfInBounds_toArray, List.set_cons_zero, List.set_cons_succ]
                    refine wpAnyH_take (i := 3) (oi := { dst := some 170, op := Op.load 3 (Operand.tmp 169), type := 3, pos := "ref.go:328", after := #[{ on := 2, ground := Ground.data }], guard := none }) (v := ?vo3) rfl (by kernel_rfl) (by kernel_rfl) (by kernel_rfl) (fun _ _ _ h => h) (Or.inl ⟨by rfl, ?yo3⟩) (by assumption) ?to3
                    case yo3 => (intro w hSw; try dsimp only at hSw); go_simp; try with_reducible rfl
                    simp only [Act.put, List.setIfInBounds_toArray, List.set_cons_zero, List.set_cons_succ]
                    refine wpAnyH_take (i := 4) (oi := { dst := some 171, op := Op.binOp BinOp.neq 3 (Operand.tmp 168) (Operand.tmp 170) 3, type := 4, pos := "ref.go:328", after := #[{ on := 1, ground := Ground.data }, { on := 3, ground := Ground.data }], guard := none }) (v := ?vo4) rfl (by kernel_rfl) (by kernel_rfl) (by kernel_rfl) (fun _ _ _ h => h) (Or.inl ⟨by rfl, ?yo4⟩) (by assumption) ?to4
                    case yo4 => (intro w hSw; try dsimp only at hSw); go_simp; try with_reducible rfl
                    simp only [Act.put, List.setIfInBounds_toArray, List.set_cons_zero, List.set_cons_succ]
                    refine wpAnyH_take (i := 5) (oi := { dst := some 172, op := Op.move (Operand.tmp 171), type := 4, pos := "ref.go:328", after := #[{ on := 4, ground := Ground.data }], guard := none }) (v := ?vo5) rfl (by kernel_rfl) (by kernel_rfl) (by kernel_rfl) (fun _ _ _ h => h) (Or.inl ⟨by rfl, ?yo5⟩) (by assumption) ?to5
                    case yo5 => (intro w hSw; try dsimp only at hSw); go_simp; try with_reducible rfl
                    simp only [Act.put, List.setIfInBounds_toArray, List.set_cons_zero, List.set_cons_succ]
                    refine wpAnyH_take (i := 6) (oi := { dst := some 173, op := Op.move (Operand.tmp 14), type := 3, pos := "ref.go:328", after := #[{ on := 5, ground := Ground.guard }], guard := some (5, true) }) (v := ?vo6) rfl (by kernel_rfl) (by kernel_rfl) (by kernel_rfl) (fun _ _ _ h => h) (Or.inl ⟨by rfl, ?yo6⟩) (by assumption) ?to6
                    case yo6 => (intro w hSw; try dsimp only at hSw); go_simp; try with_reducible rfl
                    simp only [Act.put, List.setIfInBounds_toArray, List.set_cons_zero, List.set_cons_succ]
                    refine wpAnyH_take (i := 7) (oi := { dst := some 174, op := Op.binOp BinOp.eql 3 (Operand.tmp 173) (Operand.const (Value.int IntKind.i64 0)) 3, type := 4, pos := "ref.go:328", after := #[{ on := 6, ground := Ground.data }, { on := 5, ground := Ground.guard }], guard := some (5, true) }) (v := ?vo7) rfl (by kernel_rfl) (by kernel_rfl) (by kernel_rfl) (fun _ _ _ h => h) (Or.inl ⟨by rfl, ?yo7⟩) (by assumption) ?to7
                    case yo7 => (intro w hSw; try dsimp only at hSw); go_simp; try with_reducible rfl
                    simp only [Act.put, List.setIfInBounds_toArray, List.set_cons_zero, List.set_cons_succ]
                    refine wpAnyH_take (i := 8) (oi := { dst := some 175, op := Op.move (Operand.tmp 174), type := 4, pos := "ref.go:328", after := #[{ on := 7, ground := Ground.data }, { on := 5, ground := Ground.chain }, { on := 5, ground := Ground.guard }], guard := some (5, true) }) (v := ?vo8) rfl (by kernel_rfl) (by kernel_rfl) (by kernel_rfl) (fun _ _ _ h => h) (Or.inl ⟨by rfl, ?yo8⟩) (by assumption) ?to8
                    case yo8 => (intro w hSw; try dsimp only at hSw); go_simp; try with_reducible rfl
                    simp only [Act.put, List.setIfInBounds_toArray, List.set_cons_zero, List.set_cons_succ]
                    refine wpAnyH_take (i := 9) (oi := { dst := some 176, op := Op.fieldAddr 25 (Operand.tmp 6) 3, type := 0, pos := "ref.go:328", after := #[{ on := 8, ground := Ground.guard }], guard := some (8, false) }) (v := undef) rfl (by kernel_rfl) (by kernel_rfl) (by kernel_rfl) (fun _ _ _ h => h) (Or.inr ⟨by rfl, rfl⟩) (by assumption) ?_
                    simp only [Act.put, List.setIfInBounds_toArray, List.set_cons_zero, List.set_cons_succ]
                    refine wpAnyH_take (i := 10) (oi := { dst := some 177, op := Op.load 23 (Operand.tmp 176), type := 23, pos := "ref.go:328", after := #[{ on := 9, ground := Ground.data }, { on := 8, ground := Ground.guard }], guard := some (8, false) }) (v := undef) rfl (by kernel_rfl) (by kernel_rfl) (by kernel_rfl) (fun _ _ _ h => h) (Or.inr ⟨by rfl, rfl⟩) (by assumption) ?_
                    simp only [Act.put, List.setIfInBounds_toArray, List.set_cons_zero, List.set_cons_succ]
                    refine wpAnyH_take (i := 11) (oi := { dst := some 178, op := Op.move (Operand.tmp 14), type := 3, pos := "ref.go:328", after := #[{ on := 8, ground := Ground.guard }], guard := some (8, false) }) (v := undef) rfl (by kernel_rfl) (by kernel_rfl) (by kernel_rfl) (fun _ _ _ h => h) (Or.inr ⟨by rfl, rfl⟩) (by assumption) ?_
                    simp only [Act.put, List.setIfInBounds_toArray, List.set_cons_zero, List.set_cons_succ]
                    refine wpAnyH_take (i := 12) (oi := { dst := some 179, op := Op.binOp BinOp.sub 3 (Operand.tmp 178) (Operand.const (Value.int IntKind.i64 1)) 3, type := 3, pos := "ref.go:328", after := #[{ on := 11, ground := Ground.data }, { on := 8, ground := Ground.guard }], guard := some (8, false) }) (v := undef) rfl (by kernel_rfl) (by kernel_rfl) (by kernel_rfl) (fun _ _ _ h => h) (Or.inr ⟨by rfl, rfl⟩) (by assumption) ?_
                    simp only [Act.put, List.setIfInBounds_toArray, List.set_cons_zero, List.set_cons_succ]
                    refine wpAnyH_take (i := 13) (oi := { dst := some 180, op := Op.indexAddr 23 (Operand.tmp 177) (Operand.tmp 179), type := 0, pos := "ref.go:328", after := #[{ on := 10, ground := Ground.data }, { on := 12, ground := Ground.data }, { on := 8, ground := Ground.guard }], guard := some (8, false) }) (v := undef) rfl (by kernel_rfl) (by kernel_rfl) (by kernel_rfl) (fun _ _ _ h => h) (Or.inr ⟨by rfl, rfl⟩) (by assumption) ?_
                    simp only [Act.put, List.setIfInBounds_toArray, List.set_cons_zero, List.set_cons_succ]
                    refine wpAnyH_take (i := 14) (oi := { dst := some 181, op := Op.load 58 (Operand.tmp 180), type := 58, pos := "ref.go:328", after := #[{ on := 13, ground := Ground.data }, { on := 8, ground := Ground.guard }], guard := some (8, false) }) (v := undef) rfl (by kernel_rfl) (by kernel_rfl) (by kernel_rfl) (fun _ _ _ h => h) (Or.inr ⟨by rfl, rfl⟩) (by assumption) ?_
                    simp only [Act.put, List.setIfInBounds_toArray, List.set_cons_zero, List.set_cons_succ]
                    refine wpAnyH_take (i := 15) (oi := { dst := some 182, op := Op.load 58 (Operand.tmp 13), type := 58, pos := "ref.go:328", after := #[{ on := 8, ground := Ground.guard }], guard := some (8, false) }) (v := undef) rfl (by kernel_rfl) (by kernel_rfl) (by kernel_rfl) (fun _ _ _ h => h) (Or.inr ⟨by rfl, rfl⟩) (by assumption) ?_
                    simp only [Act.put, List.setIfInBounds_toArray, List.set_cons_zero, List.set_cons_succ]
                    refine wpAnyH_take (i := 16) (oi := { dst := some 183, op := Op.call { callee := Callee.value (Operand.func 28), args := #[Operand.tmp 181, Operand.tmp 182], argTypes := #[58, 58] }, type := 4, pos := "ref.go:328", after := #[{ on := 14, ground := Ground.data }, { on := 15, ground := Ground.data }, { on := 8, ground := Ground.chain }, { on := 8, ground := Ground.guard }], guard := some (8, false) }) (v := undef) rfl (by kernel_rfl) (by kernel_rfl) (by kernel_rfl) (fun _ _ _ h => h) (Or.inr ⟨by rfl, rfl⟩) (by assumption) ?_
                    simp only [Act.put, List.setIfInBounds_toArray, List.set_cons_zero, List.set_cons_succ]
                    refine wpAnyH_take (i := 17) (oi := { dst := some 184, op := Op.pick (Operand.tmp 175) (Operand.const (Value.bool true)) (Operand.tmp 183), type := 4, pos := "ref.go:328", after := #[{ on := 8, ground := Ground.data }, { on := 16, ground := Ground.data }, { on := 5, ground := Ground.guard }], guard := some (5, true) }) (v := ?vo17) rfl (by kernel_rfl) (by kernel_rfl) (by kernel_rfl) (fun _ _ _ h => h) (Or.inl ⟨by rfl, ?yo17⟩) (by assumption) ?to17
                    case yo17 => (intro w hSw; try dsimp only at hSw); go_simp; try with_reducible rfl
                    simp only [Act.put, List.setIfInBounds_toArray, List.set_cons_zero, List.set_cons_succ]
                    refine wpAnyH_take (i := 18) (oi := { dst := some 185, op := Op.pick (Operand.tmp 172) (Operand.tmp 184) (Operand.const (Value.bool false)), type := 4, pos := "ref.go:328", after := #[{ on := 5, ground := Ground.data }, { on := 17, ground := Ground.data }], guard := none }) (v := ?vo18) rfl (by kernel_rfl) (by kernel_rfl) (by kernel_rfl) (fun _ _ _ h => h) (Or.inl ⟨by rfl, ?yo18⟩) (by assumption) ?to18
                    case yo18 => (intro w hSw; try dsimp only at hSw); go_simp; try with_reducible rfl
                    simp only [Act.put, List.setIfInBounds_toArray, List.set_cons_zero, List.set_cons_succ]
                    refine wpAnyH_done (by kernel_rfl) ?_ _
                    go_wp2_with fail
                    go_meet
                    exact ⟨true, rfl, Lib.hid (fun _ => ⟨HNE.out, fun u hu => by rw [List.eq_nil_of_length_eq_zero HW0.out] at hu; cases hu⟩), Lib.hid hHeld.2.2.2.2⟩
                  · obtain ⟨k', hk'⟩ : ∃ k', r.W.length = k' + 1 := ⟨r.W.length - 1, by omega⟩
                    have h2' : ((r.W.length : Int) == 0) = false := by simp [hk']; omega
                    obtain ⟨wb, wo, hwa, hwb, hAt⟩ := (winsA_of HM.out.wrow).2.2 k' (by omega)
                    have HL : Hid (lastW none r.W = some r.W[k']) := Lib.hid (by rw [lastW_get none r.W (by omega)]; simp only [hk', Nat.add_sub_cancel])
                    have i2 : IntKind.i64.wrap ((r.W.length : Int) - 1) = (k' : Int) := by rw [hk']; exact (congrArg _ (by omega)).trans (IntWalk.i64_in (k' : Int) (by have := HR.out.2.2.2.2.1; omega))
                    have i3 : (0 : Int) ≤ (k' : Int) := by omega
                    have i4 : (k' : Int) < (r.W.length : Int) := by omega
                    have i5 : ((k' : Int)).toNat = k' := by omega
                    obtain ⟨u, hu⟩ : ∃ u, u = r.W[k'] := ⟨_, rfl⟩
                    rw [← hu] at hAt HL
                    clear hu hW hk'
                    obtain ⟨u1, u2, u3⟩ := u
                    obtain ⟨d0, d1, d2⟩ := hAt
                    rw [hwa] at f3
                    have HK3 : Hid (∀ v, Below wc.heap.size wc v → v.cell? ⟨Sw, 0, none⟩ = some (.int .i64 v0) ∧ v.cell? ⟨Sw, 1, none⟩ = some (.int .i64 v1) ∧ v.cell? ⟨Sw, 2, none⟩ = some (.int .i64 (10 + v2)) ∧ v.cell? ⟨w.heap.size + 1, 3, none⟩ = some (.slice (some ⟨wb, wo, none⟩) r.W.length r.wc) ∧ v.cell? ⟨wb, wo + k' * 3, none⟩ = some (.int .i64 u1) ∧ v.cell? ⟨wb, wo + k' * 3 + 1, none⟩ = some (.int .i64 u2) ∧ v.cell? ⟨wb, wo + k' * 3 + 2, none⟩ = some (.int .i64 u3) ∧ Below wc.heap.size wc v) := Lib.hid fun v hv => ⟨cell_below hv b0, cell_below hv b1, cell_below hv b2, cell_below hv f3, cell_below hv d0, cell_below hv d1, cell_below hv d2, hv⟩
                    clear HK hwa
                    obtain ⟨A, hA⟩ : ∃ A, Fl.ahead ⟨u1, u2, u3⟩ ⟨v0, v1, 10 + v2⟩ = A := ⟨_, rfl⟩
                    have ha := fun w => refAfter_any ⟨u1, u2, u3⟩ ⟨v0, v1, 10 + v2⟩ w
                    rw [hA] at ha
                    have HA := Lib.hid ha; have HAE := Lib.hid hA; clear ha hA
                    refine wp_region_held_drew (S := (fun v => v.cell? ⟨Sw, 0, none⟩ = some (.int .i64 v0) ∧ v.cell? ⟨Sw, 1, none⟩ = some (.int .i64 v1) ∧ v.cell? ⟨Sw, 2, none⟩ = some (.int .i64 (10 + v2)) ∧ v.cell? ⟨w.heap.size + 1, 3, none⟩ = some (.slice (some ⟨wb, wo, none⟩) r.W.length r.wc) ∧ v.cell? ⟨wb, wo + k' * 3, none⟩ = some (.int .i64 u1) ∧ v.cell? ⟨wb, wo + k' * 3 + 1, none⟩ = some (.int .i64 u2) ∧ v.cell? ⟨wb, wo + k' * 3 + 2, none⟩ = some (.int .i64 u3) ∧ Below wc.heap.size wc v)) (by kernel_rfl) (HK3.out _ (Below.refl _ _).drew) (fun hHeld => ?_)
                    refine wpAnyH_take (i := 0) (oi := { dst := some 167, op := Op.fieldAddr 58 (Operand.tmp 13) 0, type := 0, pos := "ref.go:328", after := #[], guard := none }) (v := ?vp0) rfl (by kernel_rfl) (by kernel_rfl) (by kernel_rfl) (fun _ _ _ h => h) (Or.inl ⟨by rfl, ?yp0⟩) (by assumption) ?tp0
                    case yp0 => (intro w hSw; try dsimp only at hSw); go_simp; try with_reducible rfl
                    simp only [Act.put, List.setIfInBounds_toArray, List.set_cons_zero, List.set_cons_succ]
                    refine wpAnyH_take (i := 1) (oi := { dst := some 168, op := Op.load 3 (Operand.tmp 167), type := 3, pos := "ref.go:328", after := #[{ on := 0, ground := Ground.data }], guard := none }) (v := ?vp1) rfl (by kernel_rfl) (by kernel_rfl) (by kernel_rfl) (fun _ _ _ h => h) (Or.inl ⟨by rfl, ?yp1⟩) (by assumption) ?tp1
                    case yp1 => (intro w hSw; try dsimp only at hSw); go_simp; try with_reducible rfl
                    simp only [Act.put, List.setIfInBounds_toArray, List.set_cons_zero, List.set_cons_succ]
                    refine wpAnyH_take (i := 2) (oi := { dst := some 169, op := Op.fieldAddr 58 (Operand.tmp 13) 1, type := 0, pos := "ref.go:328", after := #[], guard := none }) (v := ?vp2) rfl (by kernel_rfl) (by kernel_rfl) (by kernel_rfl) (fun _ _ _ h => h) (Or.inl ⟨by rfl, ?yp2⟩) (by assumption) ?tp2
                    case yp2 => (intro w hSw; try dsimp only at hSw); go_simp; try with_reducible rfl
                    simp only [Act.put, List.setIfInBounds_toArray, List.set_cons_zero, List.set_cons_succ]
                    refine wpAnyH_take (i := 3) (oi := { dst := some 170, op := Op.load 3 (Operand.tmp 169), type := 3, pos := "ref.go:328", after := #[{ on := 2, ground := Ground.data }], guard := none }) (v := ?vp3) rfl (by kernel_rfl) (by kernel_rfl) (by kernel_rfl) (fun _ _ _ h => h) (Or.inl ⟨by rfl, ?yp3⟩) (by assumption) ?tp3
                    case yp3 => (intro w hSw; try dsimp only at hSw); go_simp; try with_reducible rfl
                    simp only [Act.put, List.setIfInBounds_toArray, List.set_cons_zero, List.set_cons_succ]
                    refine wpAnyH_take (i := 4) (oi := { dst := some 171, op := Op.binOp BinOp.neq 3 (Operand.tmp 168) (Operand.tmp 170) 3, type := 4, pos := "ref.go:328", after := #[{ on := 1, ground := Ground.data }, { on := 3, ground := Ground.data }], guard := none }) (v := ?vp4) rfl (by kernel_rfl) (by kernel_rfl) (by kernel_rfl) (fun _ _ _ h => h) (Or.inl ⟨by rfl, ?yp4⟩) (by assumption) ?tp4
                    case yp4 => (intro w hSw; try dsimp only at hSw); go_simp; try with_reducible rfl
                    simp only [Act.put, List.setIfInBounds_toArray, List.set_cons_zero, List.set_cons_succ]
                    refine wpAnyH_take (i := 5) (oi := { dst := some 172, op := Op.move (Operand.tmp 171), type := 4, pos := "ref.go:328", after := #[{ on := 4, ground := Ground.data }], guard := none }) (v := ?vp5) rfl (by kernel_rfl) (by kernel_rfl) (by kernel_rfl) (fun _ _ _ h => h) (Or.inl ⟨by rfl, ?yp5⟩) (by assumption) ?tp5
                    case yp5 => (intro w hSw; try dsimp only at hSw); go_simp; try with_reducible rfl
                    simp only [Act.put, List.setIfInBounds_toArray, List.set_cons_zero, List.set_cons_succ]
                    refine wpAnyH_take (i := 6) (oi := { dst := some 173, op := Op.move (Operand.tmp 14), type := 3, pos := "ref.go:328", after := #[{ on := 5, ground := Ground.guard }], guard := some (5, true) }) (v := ?vp6) rfl (by kernel_rfl) (by kernel_rfl) (by kernel_rfl) (fun _ _ _ h => h) (Or.inl ⟨by rfl, ?yp6⟩) (by assumption) ?tp6
                    case yp6 => (intro w hSw; try dsimp only at hSw); go_simp; try with_reducible rfl
                    simp only [Act.put, List.setIfInBounds_toArray, List.set_cons_zero, List.set_cons_succ]
                    refine wpAnyH_take (i := 7) (oi := { dst := some 174, op := Op.binOp BinOp.eql 3 (Operand.tmp 173) (Operand.const (Value.int IntKind.i64 0)) 3, type := 4, pos := "ref.go:328", after := #[{ on := 6, ground := Ground.data }, { on := 5, ground := Ground.guard }], guard := some (5, true) }) (v := ?vp7) rfl (by kernel_rfl) (by kernel_rfl) (by kernel_rfl) (fun _ _ _ h => h) (Or.inl ⟨by rfl, ?yp7⟩) (by assumption) ?tp7
                    case yp7 => (intro w hSw; try dsimp only at hSw); go_simp; try with_reducible rfl
                    simp only [Act.put, List.setIfInBounds_toArray, List.set_cons_zero, List.set_cons_succ]
                    refine wpAnyH_take (i := 8) (oi := { dst := some 175, op := Op.move (Operand.tmp 174), type := 4, pos := "ref.go:328", after := #[{ on := 7, ground := Ground.data }, { on := 5, ground := Ground.chain }, { on := 5, ground := Ground.guard }], guard := some (5, true) }) (v := ?vp8) rfl (by kernel_rfl) (by kernel_rfl) (by kernel_rfl) (fun _ _ _ h => h) (Or.inl ⟨by rfl, ?yp8⟩) (by assumption) ?tp8
                    case yp8 => (intro w hSw; try dsimp only at hSw); go_simp; try with_reducible rfl
                    simp only [Act.put, List.setIfInBounds_toArray, List.set_cons_zero, List.set_cons_succ]
                    refine wpAnyH_take (i := 9) (oi := { dst := some 176, op := Op.fieldAddr 25 (Operand.tmp 6) 3, type := 0, pos := "ref.go:328", after := #[{ on := 8, ground := Ground.guard }], guard := some (8, false) }) (v := ?vp9) rfl (by kernel_rfl) (by kernel_rfl) (by kernel_rfl) (fun _ _ _ h => h) (Or.inl ⟨by rfl, ?yp9⟩) (by assumption) ?tp9
                    case yp9 => (intro w hSw; try dsimp only at hSw); go_simp; try with_reducible rfl
                    simp only [Act.put, List.setIfInBounds_toArray, List.set_cons_zero, List.set_cons_succ]
                    refine wpAnyH_take (i := 10) (oi := { dst := some 177, op := Op.load 23 (Operand.tmp 176), type := 23, pos := "ref.go:328", after := #[{ on := 9, ground := Ground.data }, { on := 8, ground := Ground.guard }], guard := some (8, false) }) (v := ?vp10) rfl (by kernel_rfl) (by kernel_rfl) (by kernel_rfl) (fun _ _ _ h => h) (Or.inl ⟨by rfl, ?yp10⟩) (by assumption) ?tp10
                    case yp10 => (intro w hSw; try dsimp only at hSw); go_simp; try with_reducible rfl
                    simp only [Act.put, List.setIfInBounds_toArray, List.set_cons_zero, List.set_cons_succ]
                    refine wpAnyH_take (i := 11) (oi := { dst := some 178, op := Op.move (Operand.tmp 14), type := 3, pos := "ref.go:328", after := #[{ on := 8, ground := Ground.guard }], guard := some (8, false) }) (v := ?vp11) rfl (by kernel_rfl) (by kernel_rfl) (by kernel_rfl) (fun _ _ _ h => h) (Or.inl ⟨by rfl, ?yp11⟩) (by assumption) ?tp11
                    case yp11 => (intro w hSw; try dsimp only at hSw); go_simp; try with_reducible rfl
                    simp only [Act.put, List.setIfInBounds_toArray, List.set_cons_zero, List.set_cons_succ]
                    refine wpAnyH_take (i := 12) (oi := { dst := some 179, op := Op.binOp BinOp.sub 3 (Operand.tmp 178) (Operand.const (Value.int IntKind.i64 1)) 3, type := 3, pos := "ref.go:328", after := #[{ on := 11, ground := Ground.data }, { on := 8, ground := Ground.guard }], guard := some (8, false) }) (v := ?vp12) rfl (by kernel_rfl) (by kernel_rfl) (by kernel_rfl) (fun _ _ _ h => h) (Or.inl ⟨by rfl, ?yp12⟩) (by assumption) ?tp12
                    case yp12 => (intro w hSw; try dsimp only at hSw); go_simp; try with_reducible rfl
                    simp only [Act.put, List.setIfInBounds_toArray, List.set_cons_zero, List.set_cons_succ]
                    refine wpAnyH_take (i := 13) (oi := { dst := some 180, op := Op.indexAddr 23 (Operand.tmp 177) (Operand.tmp 179), type := 0, pos := "ref.go:328", after := #[{ on := 10, ground := Ground.data }, { on := 12, ground := Ground.data }, { on := 8, ground := Ground.guard }], guard := some (8, false) }) (v := ?vp13) rfl (by kernel_rfl) (by kernel_rfl) (by kernel_rfl) (fun _ _ _ h => h) (Or.inl ⟨by rfl, ?yp13⟩) (by assumption) ?tp13
                    case yp13 => (intro w hSw; try dsimp only at hSw); go_simp; try with_reducible rfl
                    simp only [Act.put, List.setIfInBounds_toArray, List.set_cons_zero, List.set_cons_succ]
                    refine wpAnyH_take (i := 14) (oi := { dst := some 181, op := Op.load 58 (Operand.tmp 180), type := 58, pos := "ref.go:328", after := #[{ on := 13, ground := Ground.data }, { on := 8, ground := Ground.guard }], guard := some (8, false) }) (v := ?vp14) rfl (by kernel_rfl) (by kernel_rfl) (by kernel_rfl) (fun _ _ _ h => h) (Or.inl ⟨by rfl, ?yp14⟩) (by assumption) ?tp14
                    case yp14 => (intro w hSw; try dsimp only at hSw); go_simp; try with_reducible rfl
                    simp only [Act.put, List.setIfInBounds_toArray, List.set_cons_zero, List.set_cons_succ]
                    refine wpAnyH_take (i := 15) (oi := { dst := some 182, op := Op.load 58 (Operand.tmp 13), type := 58, pos := "ref.go:328", after := #[{ on := 8, ground := Ground.guard }], guard := some (8, false) }) (v := ?vp15) rfl (by kernel_rfl) (by kernel_rfl) (by kernel_rfl) (fun _ _ _ h => h) (Or.inl ⟨by rfl, ?yp15⟩) (by assumption) ?tp15
                    case yp15 => (intro w hSw; try dsimp only at hSw); go_simp; try with_reducible rfl
                    simp only [Act.put, List.setIfInBounds_toArray, List.set_cons_zero, List.set_cons_succ]
                    refine wpAnyH_ready (rs := [16]) (by kernel_rfl) (by simp) ?_
                    refine AllReadyH.cons (o := { dst := some 183, op := Op.call { callee := Callee.value (Operand.func 28), args := #[Operand.tmp 181, Operand.tmp 182], argTypes := #[58, 58] }, type := 4, pos := "ref.go:328", after := #[{ on := 14, ground := Ground.data }, { on := 15, ground := Ground.data }, { on := 8, ground := Ground.chain }, { on := 8, ground := Ground.guard }], guard := some (8, false) }) rfl (fun K hK => ?_) AllReadyH.nil
                    go_simp
                    refine (HA.out _).mono ?_; rintro e w4 ⟨rfl, hb4⟩
                    refine hK.out _ _ (HK3.out _ (below_step (by have h := hHeld; exact h.2.2.2.2.2.2.2) hb4)) (fun hHeld' => ?_)
                    clear hK K hHeld
                    have hHeld := hHeld'; clear hHeld'
                    try simp only [Act.put, List.setIfInBounds_toArray, List.set_cons_zero, List.set_cons_succ]
                    refine wpAnyH_take (i := 17) (oi := { dst := some 184, op := Op.pick (Operand.tmp 175) (Operand.const (Value.bool true)) (Operand.tmp 183), type := 4, pos := "ref.go:328", after := #[{ on := 8, ground := Ground.data }, { on := 16, ground := Ground.data }, { on := 5, ground := Ground.guard }], guard := some (5, true) }) (v := ?vp17) rfl (by kernel_rfl) (by kernel_rfl) (by kernel_rfl) (fun _ _ _ h => h) (Or.inl ⟨by rfl, ?yp17⟩) (by assumption) ?tp17
                    case yp17 => (intro w hSw; try dsimp only at hSw); go_simp; try with_reducible rfl
                    simp only [Act.put, List.setIfInBounds_toArray, List.set_cons_zero, List.set_cons_succ]
                    refine wpAnyH_take (i := 18) (oi := { dst := some 185, op := Op.pick (Operand.tmp 172) (Operand.tmp 184) (Operand.const (Value.bool false)), type := 4, pos := "ref.go:328", after := #[{ on := 5, ground := Ground.data }, { on := 17, ground := Ground.data }], guard := none }) (v := ?vp18) rfl (by kernel_rfl) (by kernel_rfl) (by kernel_rfl) (fun _ _ _ h => h) (Or.inl ⟨by rfl, ?yp18⟩) (by assumption) ?tp18
                    case yp18 => (intro w hSw; try dsimp only at hSw); go_simp; try with_reducible rfl
                    simp only [Act.put, List.setIfInBounds_toArray, List.set_cons_zero, List.set_cons_succ]
                    refine wpAnyH_done (by kernel_rfl) ?_ _
                    go_wp2_with fail
                    go_meet
                    exact ⟨A, rfl, Lib.hid (fun h => ⟨HNE.out, fun u hu => by rw [HL.out] at hu; injection hu with hu; subst hu; rw [HAE.out]; exact h⟩), Lib.hid hHeld.2.2.2.2.2.2.2⟩
              case rest =>
                obtain ⟨bb, rfl, HBB, HBw⟩ := hcut
                have HM2 := Lib.hid (HM.out.below HBw.out)
                have HBX2 := Lib.hid ((HBw.out.block _ (lt_of_block HBX.out)).trans HBX.out)
                clear HM HBX HBw f3
                have e13 : IntKind.i64.wrap ((j : Int) + 1) = (j : Int) + 1 := IntWalk.i64_in _ (by omega)
                cases bb
                · go_wp2_with fail
                  go_roundg (4 - (j + 1))
                  case rel =>
                    obtain ⟨_, v1, v2, v3, v4, v5⟩ := HR.out
                    exact ⟨j + 1, r, by omega, by omega, rfl, by go_num, Lib.hid ⟨HM2.out, v1, v2, v3, by omega, v5⟩⟩
                  case measure => omega
                · have HWA := Lib.hid (below_new wc (.cells #[.int .i64 v0, .int .i64 v1, .int .i64 (10 + v2)] 58))
                  have HM3 := Lib.hid (HM2.out.below HWA.out)
                  have HNW : Hid (∀ j u, ([.int .i64 v0, .int .i64 v1, .int .i64 (10 + v2)])[j]? = some u → (wc.alloc (.cells #[.int .i64 v0, .int .i64 v1, .int .i64 (10 + v2)] 58)).cell? ((⟨wc.heap.size, 0, none⟩ : Addr).add j) = some u) := Lib.hid (World.news_of_block (cs := #[.int .i64 v0, .int .i64 v1, .int .i64 (10 + v2)]) (t := 58) (fr := (0, 0)) (heap_alloc_new wc _))
                  have HPu : Hid (∀ g cap w2, w2.ownsRow w.heap.size 58 3 (.slice (some ⟨g, 0, none⟩) (r.W.length + 1) cap) (r.W.length + 1) (winRow r.W ++ [.int .i64 v0, .int .i64 v1, .int .i64 (10 + v2)]) → (wc.alloc (.cells #[.int .i64 v0, .int .i64 v1, .int .i64 (10 + v2)] 58)).grownBy w2 (Value.slice r.wa r.W.length r.wc).ownBlock → _) := Lib.hid fun g cap w2 h1 h2 => HM3.out.pushedW (g := g) (cap := cap) (w2 := w2) ⟨v0, v1, 10 + v2⟩ h1 h2
                  have hBs := HM2.out.size
                  have f3 := block_cell HM2.out.fb 3 _ rfl
                  have b0 := block_cell HBX2.out 0 _ rfl
                  have b1 := block_cell HBX2.out 1 _ rfl
                  have b2 := block_cell HBX2.out 2 _ rfl
                  obtain ⟨i0, hi, hz0, hz1, hz2⟩ := info_parts info_win
                  go_wp2_with (at_builtin; refine wpList_append_lies _ rfl _ _ _ rfl w.heap.size 58 i0 _ 3 24 Tryz.underlying23 hi hz0 hz1 hz2 rfl (by decide) (.slice r.wa r.W.length r.wc) r.W.length (winRow r.W) rfl HM3.out.wrow ⟨wc.heap.size, 0, none⟩ 1 1 [.int .i64 v0, .int .i64 v1, .int .i64 (10 + v2)] rfl rfl HNW.out (by simp [Value.oneCell']) (by decide) ?c1 ?c2 ?c3 (wc.heap.size + 1) (by simp) ?_)
                  case c1 => have := HR.out.2.2.2.2.1; unfold maxLen; omega
                  case c2 => have := HR.out.2.2.2.2.1; omega
                  case c3 => first | omega | (simp; omega)
                  intro g cap w2 hown hgrow hat hl2
                  have F := Lib.hid (HPu.out g cap w2 hown hgrow)
                  clear hown hgrow hat f3 b0 b1 b2
                  have f3 := block_cell F.out.1 3 _ rfl
                  have z3 := box_fz F.out.1 3
                  go_wp2_with fail
                  clear f3 z3
                  generalize w2.setCell ⟨w.heap.size + 1, 3, none⟩ (.slice (some ⟨g, 0, none⟩) (r.W.length + 1) cap) = w3 at *
                  go_roundg (4 - (j + 1))
                  case rel =>
                    obtain ⟨_, u1, u2, u3, u4, u5⟩ := HR.out
                    obtain ⟨x1, x2⟩ := HBB.out (by trivial)
                    exact ⟨j + 1, { r with W := r.W ++ [⟨v0, v1, 10 + v2⟩], wa := some ⟨g, 0, none⟩, wc := cap }, by omega, by omega, rfl, by go_num, Lib.hid ⟨F.out.2, u1, u2, u3, by simp; omega, vWinsFrom_snoc u5 (win_made q0 q0' q1 q1' q2 q2' x1) x2⟩⟩
                  case measure => omega
          · have HD := Lib.hid (Done.of HR.out.1)
            have f0 := block_cell HR.out.1.fb 0 _ rfl
            have f1 := block_cell HR.out.1.fb 1 _ rfl
            have f2 := block_cell HR.out.1.fb 2 _ rfl
            have f3 := block_cell HR.out.1.fb 3 _ rfl
            have r0 := block_cell HR.out.1.rb 0 _ rfl
            have r1 := block_cell HR.out.1.rb 1 _ rfl
            have r2 := block_cell HR.out.1.rb 2 _ rfl
            have r3 := block_cell HR.out.1.rb 3 _ rfl
            have z0 := box_fz HR.out.1.rb 0
            have z1 := box_fz HR.out.1.rb 1
            have z2 := box_fz HR.out.1.rb 2
            have z3 := box_fz HR.out.1.rb 3
            go_wp2_with fail
            clear f0 f1 f2 f3 r0 r1 r2 r3 z0 z1 z2 z3
            have HD4 := Lib.hid ((((HD.out.set 0 (.int .i64 r.least)).set 1 (.int .i64 r.most)).set 2 (.slice r.sa r.P.length r.sc)).set 3 (.slice r.wa r.W.length r.wc))
            have rb := block_set (block_set (block_set (block_set HR.out.1.rb (o := 0) (.int .i64 r.least)) (o := 1) (.int .i64 r.most)) (o := 2) (.slice r.sa r.P.length r.sc)) (o := 3) (.slice r.wa r.W.length r.wc)
            generalize (((wr.setCell ⟨w.heap.size, 0, none⟩ (.int .i64 r.least)).setCell ⟨w.heap.size, 1, none⟩ (.int .i64 r.most)).setCell ⟨w.heap.size, 2, none⟩ (.slice r.sa r.P.length r.sc)).setCell ⟨w.heap.size, 3, none⟩ (.slice r.wa r.W.length r.wc) = V at *
            have r0 := block_cell rb 0 (.int .i64 r.least) rfl
            have r1 := block_cell rb 1 (.int .i64 r.most) rfl
            have r2 := block_cell rb 2 (.slice r.sa r.P.length r.sc) rfl
            have r3 := block_cell rb 3 (.slice r.wa r.W.length r.wc) rfl
            clear rb
            obtain ⟨m0, m1, m2, m3, m4, m5, m6, m7⟩ := HQ.out
            obtain ⟨_, v1, v2, v3, v4, v5⟩ := HR.out
            have hnk : q.P.length = n := by omega
            have VAL := Lib.hid (made_valid v1 v2 hn1 hn8 (by rw [v3]; exact hnk) (by rw [v3]; exact m7) (by omega) v5)
            have LP : Hid (r.P.length ≤ 8 ∧ r.W.length ≤ 4) := Lib.hid ⟨by rw [v3]; omega, by omega⟩
            clear m0 m1 m2 m3 m4 m5 m6 m7 v1 v2 v3 v4 v5 hnk
            refine bodyPost_ret (v := r.v) (by simp [results, Tryz.results12, go_sem, r0, r1, r2, r3]) rfl ?_
            exact ⟨r, rfl, HD4.out.ok, VAL.out, LP.out.1, LP.out.2, HD4.out.bel⟩
        · have HD := Lib.hid (Done.of HR.out.1)
          have f0 := block_cell HR.out.1.fb 0 _ rfl
          have f1 := block_cell HR.out.1.fb 1 _ rfl
          have f2 := block_cell HR.out.1.fb 2 _ rfl
          have f3 := block_cell HR.out.1.fb 3 _ rfl
          have r0 := block_cell HR.out.1.rb 0 _ rfl
          have r1 := block_cell HR.out.1.rb 1 _ rfl
          have r2 := block_cell HR.out.1.rb 2 _ rfl
          have r3 := block_cell HR.out.1.rb 3 _ rfl
          have z0 := box_fz HR.out.1.rb 0
          have z1 := box_fz HR.out.1.rb 1
          have z2 := box_fz HR.out.1.rb 2
          have z3 := box_fz HR.out.1.rb 3
          go_wp2_with fail
          clear f0 f1 f2 f3 r0 r1 r2 r3 z0 z1 z2 z3
          have HD4 := Lib.hid ((((HD.out.set 0 (.int .i64 r.least)).set 1 (.int .i64 r.most)).set 2 (.slice r.sa r.P.length r.sc)).set 3 (.slice r.wa r.W.length r.wc))
          have rb := block_set (block_set (block_set (block_set HR.out.1.rb (o := 0) (.int .i64 r.least)) (o := 1) (.int .i64 r.most)) (o := 2) (.slice r.sa r.P.length r.sc)) (o := 3) (.slice r.wa r.W.length r.wc)
          generalize (((wr.setCell ⟨w.heap.size, 0, none⟩ (.int .i64 r.least)).setCell ⟨w.heap.size, 1, none⟩ (.int .i64 r.most)).setCell ⟨w.heap.size, 2, none⟩ (.slice r.sa r.P.length r.sc)).setCell ⟨w.heap.size, 3, none⟩ (.slice r.wa r.W.length r.wc) = V at *
          have r0 := block_cell rb 0 (.int .i64 r.least) rfl
          have r1 := block_cell rb 1 (.int .i64 r.most) rfl
          have r2 := block_cell rb 2 (.slice r.sa r.P.length r.sc) rfl
          have r3 := block_cell rb 3 (.slice r.wa r.W.length r.wc) rfl
          clear rb
          obtain ⟨m0, m1, m2, m3, m4, m5, m6, m7⟩ := HQ.out
          obtain ⟨_, v1, v2, v3, v4, v5⟩ := HR.out
          have hnk : q.P.length = n := by omega
          have VAL := Lib.hid (made_valid v1 v2 hn1 hn8 (by rw [v3]; exact hnk) (by rw [v3]; exact m7) (by omega) v5)
          have LP : Hid (r.P.length ≤ 8 ∧ r.W.length ≤ 4) := Lib.hid ⟨by rw [v3]; omega, by omega⟩
          clear m0 m1 m2 m3 m4 m5 m6 m7 v1 v2 v3 v4 v5 hnk
          refine bodyPost_ret (v := r.v) (by simp [results, Tryz.results12, go_sem, r0, r1, r2, r3]) rfl ?_
          exact ⟨r, rfl, HD4.out.ok, VAL.out, LP.out.1, LP.out.2, HD4.out.bel⟩
end Go.Proofs.YtcaclijkkbhfhaaGreatDoor
