/-
  The reading methods' steps on paper, one answer each; what stays while a local struct of readStep is filled.
-/
import Derived.Test.YtcaclijkkbhfhaaGreatDoorMove
namespace Go.Proofs.YtcaclijkkbhfhaaGreatDoor
open Go.RowKit Go.Shelf

/-! ### on paper -/
def wordOf : Fl.Rest → Option (List UInt8 × Fl.Rest)
  | none => none
  | some s => some ((Lib.cut s [32]).1, tailR s)
def numOf (r : Fl.Rest) : Option (Int × Fl.Rest) := (wordOf r).bind fun p => (Fl.number p.1).bind fun n => some (n, p.2)
def skipOf (x : List UInt8) (r : Fl.Rest) : Option Fl.Rest := (wordOf r).bind fun p => if p.1 = x then some p.2 else none
def twoOf (r : Fl.Rest) : Option ((Int × Int) × Fl.Rest) := (wordOf r).bind fun p => (spanOf p.1).bind fun s => some (s, p.2)
theorem word_eq {α} (r : Fl.Rest) (k : List UInt8 → Fl.Rest → Option α) : Fl.word r k = (wordOf r).bind fun p => k p.1 p.2 := by cases r <;> rfl
theorem num_eq {α} (r : Fl.Rest) (k : Int → Fl.Rest → Option α) : Fl.num r k = (numOf r).bind fun p => k p.1 p.2 := by
  unfold Fl.num numOf; rw [word_eq]
  cases wordOf r with
  | none => rfl
  | some p => simp only [Option.bind_some]; cases Fl.number p.1 <;> rfl
theorem skip_eq {α} (x : List UInt8) (r : Fl.Rest) (k : Fl.Rest → Option α) : Fl.skip x r k = (skipOf x r).bind k := by
  unfold Fl.skip skipOf; rw [word_eq]
  cases wordOf r with
  | none => rfl
  | some p => simp only [Option.bind_some]; split <;> rfl
theorem two_eq {α} (r : Fl.Rest) (k : Int → Int → Fl.Rest → Option α) : Fl.two r k = (twoOf r).bind fun p => k p.1.1 p.1.2 p.2 := by
  rw [two_spanOf]; unfold twoOf
  cases r with
  | none => rfl
  | some s => simp only [wordOf, Option.bind_some]; cases spanOf (Lib.cut s [32]).1 <;> rfl
def restLen (r : Fl.Rest) : Nat := (r.getD []).length
theorem wordOf_len {r r' : Fl.Rest} {z : List UInt8} (h : wordOf r = some (z, r')) : restLen r' ≤ restLen r ∧ z.length ≤ restLen r := by
  cases r with
  | none => cases h
  | some s =>
    injection h with h; injection h with h1 h2; subst h1; subst h2
    exact ⟨tailR_len s, cut_len1 s [32]⟩
theorem numOf_word {r r' : Fl.Rest} {n : Int} (h : numOf r = some (n, r')) : ∃ z, wordOf r = some (z, r') ∧ Fl.number z = some n := by
  unfold numOf at h
  cases hw : wordOf r with
  | none => rw [hw] at h; cases h
  | some p =>
    rw [hw] at h; simp only [Option.bind_some] at h
    cases hn : Fl.number p.1 with
    | none => rw [hn] at h; cases h
    | some m =>
      rw [hn] at h; simp only [Option.bind_some] at h
      injection h with h; injection h with h1 h2; subst h1; subst h2; exact ⟨p.1, rfl, hn⟩

/-! ### the contracts, one answer each -/
def Bad (a : Addr) (B R : Nat) (c : Rd) (w : World) (e : Ending) (w' : World) : Prop := e = raised a ∧ Fr B R w w' ∧ ∃ c', RdAt w' R c' ∧ c'.line = c.line
def Got (a : Addr) (B R : Nat) (v : Value) (c : Rd) (q : FlowP) (r : Fl.Rest) (w : World) (e : Ending) (w' : World) : Prop := e = .returned v ∧ Only R w w' ∧ In a B R { c with r := r } q w'
theorem bad_of {a : Addr} {B R : Nat} {c : Rd} {q : FlowP} {w : World} (h : In a B R c q w) {e : Ending} {w' : World} (hf : Fails a R c w e w') : Bad a B R c w e w' := ⟨hf.1, Fr.only hf.2.1 h.lt h.holds.ge, hf.2.2⟩
theorem got_of {a : Addr} {B R : Nat} {c : Rd} {q : FlowP} {w : World} (h : In a B R c q w) {v : Value} {r : Fl.Rest} (hr : restLen r ≤ restLen c.r) {e : Ending} {w' : World} (hf : Reads R v { c with r := r } w e w') : Got a B R v c q r w e w' :=
  ⟨hf.1, hf.2.1, h.only hf.2.1 hf.2.2 (Nat.le_trans hr h.ok.len) rfl rfl rfl rfl⟩
theorem word_no {a : Addr} {B R : Nat} {c : Rd} {q : FlowP} {w : World} (h : In a B R c q w) (hr : wordOf c.r = none) : Calls Tryz.prog 79 #[.pointer (some ⟨R, 0, none⟩)] w (Bad a B R c w) := by
  cases hc : c.r with
  | none => exact (word_none c R a w h.ok hc).mono fun _ _ hf => bad_of h hf
  | some s => rw [hc] at hr; cases hr
theorem word_yes {a : Addr} {B R : Nat} {c : Rd} {q : FlowP} {w : World} (h : In a B R c q w) {z : List UInt8} {r : Fl.Rest} (hr : wordOf c.r = some (z, r)) : Calls Tryz.prog 79 #[.pointer (some ⟨R, 0, none⟩)] w (Got a B R (.string (bs z)) c q r w) := by
  have hl := (wordOf_len hr).1
  cases hc : c.r with
  | none => rw [hc] at hr; cases hr
  | some s =>
    have hw := word_some c s R a w h.ok hc
    rw [hc] at hr
    injection hr with hr; injection hr with h1 h2; subst h1; subst h2
    exact hw.mono fun _ _ hf => got_of h hl hf
theorem skip_no {a : Addr} {B R : Nat} {c : Rd} {q : FlowP} {w : World} (h : In a B R c q w) {x : List UInt8} (hr : skipOf x c.r = none) : Calls Tryz.prog 104 #[.pointer (some ⟨R, 0, none⟩), .string (bs x)] w (Bad a B R c w) := by
  have hs := skip_any x c R a w h.ok
  cases hc : c.r with
  | none => rw [hc] at hs; exact hs.mono fun _ _ hf => bad_of h hf
  | some s =>
    rw [hc] at hs hr
    simp only [skipOf, wordOf, Option.bind_some] at hr
    split at hr
    · cases hr
    · rename_i hx; simp only [if_neg hx] at hs; exact hs.mono fun _ _ hf => bad_of h hf
theorem skip_yes {a : Addr} {B R : Nat} {c : Rd} {q : FlowP} {w : World} (h : In a B R c q w) {x : List UInt8} {r : Fl.Rest} (hr : skipOf x c.r = some r) : Calls Tryz.prog 104 #[.pointer (some ⟨R, 0, none⟩), .string (bs x)] w (Got a B R (.tuple #[]) c q r w) := by
  have hs := skip_any x c R a w h.ok
  cases hc : c.r with
  | none => rw [hc] at hr; cases hr
  | some s =>
    rw [hc] at hs hr
    simp only [skipOf, wordOf, Option.bind_some] at hr
    split at hr
    · rename_i hx; simp only [if_pos hx] at hs
      injection hr with hr; subst hr
      exact hs.mono fun _ _ hf => got_of h (by rw [hc]; exact tailR_len s) hf
    · cases hr
theorem num_no {a : Addr} {B R : Nat} {c : Rd} {q : FlowP} {w : World} (h : In a B R c q w) (hr : numOf c.r = none) : Calls Tryz.prog 103 #[.pointer (some ⟨R, 0, none⟩)] w (Bad a B R c w) := by
  have hs := rNumber_any c R a w h.ok
  cases hc : c.r with
  | none => rw [hc] at hs; exact hs.mono fun _ _ hf => bad_of h hf
  | some s =>
    rw [hc] at hs hr
    simp only [numOf, wordOf, Option.bind_some] at hr
    cases hn : Fl.number (Lib.cut s [32]).1 with
    | none => simp only [hn] at hs; exact hs.mono fun _ _ hf => bad_of h hf
    | some n => rw [hn] at hr; cases hr
theorem num_yes {a : Addr} {B R : Nat} {c : Rd} {q : FlowP} {w : World} (h : In a B R c q w) {n : Int} {r : Fl.Rest} (hr : numOf c.r = some (n, r)) : Calls Tryz.prog 103 #[.pointer (some ⟨R, 0, none⟩)] w (Got a B R (.int .i64 n) c q r w) := by
  have hs := rNumber_any c R a w h.ok
  cases hc : c.r with
  | none => rw [hc] at hr; cases hr
  | some s =>
    rw [hc] at hs hr
    simp only [numOf, wordOf, Option.bind_some] at hr
    cases hn : Fl.number (Lib.cut s [32]).1 with
    | none => rw [hn] at hr; cases hr
    | some m =>
      rw [hn] at hr; simp only [Option.bind_some] at hr
      injection hr with hr; injection hr with h1 h2; subst h1; subst h2
      simp only [hn] at hs
      exact hs.mono fun _ _ hf => got_of h (by rw [hc]; exact tailR_len s) hf
theorem two_no {a : Addr} {B R : Nat} {c : Rd} {q : FlowP} {w : World} (h : In a B R c q w) (hr : twoOf c.r = none) : Calls Tryz.prog 102 #[.pointer (some ⟨R, 0, none⟩)] w (Bad a B R c w) := by
  have hs := rSpan_any c R a w h.ok
  cases hc : c.r with
  | none => rw [hc] at hs; exact hs.mono fun _ _ hf => bad_of h hf
  | some s =>
    rw [hc] at hs hr
    simp only [twoOf, wordOf, Option.bind_some] at hr
    cases hn : spanOf (Lib.cut s [32]).1 with
    | none => simp only [hn] at hs; exact hs.mono fun _ _ hf => bad_of h hf
    | some n => rw [hn] at hr; cases hr
theorem two_yes {a : Addr} {B R : Nat} {c : Rd} {q : FlowP} {w : World} (h : In a B R c q w) {x y : Int} {r : Fl.Rest} (hr : twoOf c.r = some ((x, y), r)) : Calls Tryz.prog 102 #[.pointer (some ⟨R, 0, none⟩)] w (Got a B R (.tuple #[.int .i64 x, .int .i64 y]) c q r w) := by
  have hs := rSpan_any c R a w h.ok
  cases hc : c.r with
  | none => rw [hc] at hr; cases hr
  | some s =>
    rw [hc] at hs hr
    simp only [twoOf, wordOf, Option.bind_some] at hr
    cases hn : spanOf (Lib.cut s [32]).1 with
    | none => rw [hn] at hr; cases hr
    | some m =>
      obtain ⟨x', y'⟩ := m
      rw [hn] at hr; simp only [Option.bind_some] at hr
      injection hr with hr; injection hr with h1 h2; injection h1 with h0 h1; subst h0; subst h1; subst h2
      simp only [hn] at hs
      exact hs.mono fun _ _ hf => got_of h (by rw [hc]; exact tailR_len s) hf

/-! ### while a struct of the call's own is filled -/
structure Loc (a : Addr) (B R : Nat) (c : Rd) (q : FlowP) (W : World) (cs : Array Value) (own : List (Value × List Int)) (w : World) : Prop where
  inn : In a B R c q w
  box : w.heap[W.heap.size]? = some (.cells cs 55)
  sep : ∀ k, (Value.slice q.sa q.P.length q.sc).ownBlock = some k → k < W.heap.size
  hR : R < W.heap.size
  fr : Fr B R W w
  own : ∀ x ∈ own, IntOwn w B x.1 x.2
theorem Loc.new {a : Addr} {B R : Nat} {c : Rd} {q : FlowP} {W : World} (h : In a B R c q W) (cs : Array Value) : Loc a B R c q W cs [] (W.alloc (.cells cs 55)) :=
  ⟨h.below (below_new _ _), heap_alloc_new _ _, fun k hk => (h.holds.srow.lt k hk).2, h.ok.at_.lt, Fr.ofBelow (below_new _ _) h.lt, fun x hx => by cases hx⟩
theorem Loc.only {a : Addr} {B R : Nat} {c c' : Rd} {q : FlowP} {W : World} {cs : Array Value} {own : List (Value × List Int)} {w w' : World} (h : Loc a B R c q W cs own w) (ho : Only R w w') (h' : In a B R c' q w') : Loc a B R c' q W cs own w' :=
  ⟨h', (ho.block _ (lt_of_block h.box) (by intro e; injection e with e; have := h.hR; omega)).trans h.box, h.sep, h.hR, h.fr.trans (Fr.only ho h.inn.lt h.inn.holds.ge),
    fun x hx => (h.own x hx).kept ho (fun k hk => by injection hk with hk; subst hk; exact ⟨_, _, h.inn.ok.at_, by decide⟩)⟩
theorem Loc.below {a : Addr} {B R : Nat} {c : Rd} {q : FlowP} {W : World} {cs : Array Value} {own : List (Value × List Int)} {w w' : World} (h : Loc a B R c q W cs own w) (hb : Below w.heap.size w w') : Loc a B R c q W cs own w' :=
  h.only (Only.ofBelow hb) (h.inn.below hb)
theorem Loc.add {a : Addr} {B R : Nat} {c : Rd} {q : FlowP} {W : World} {cs : Array Value} {own : List (Value × List Int)} {w : World} (h : Loc a B R c q W cs own w) {v : Value} {L : List Int} (hv : IntOwn w B v L) : Loc a B R c q W cs ((v, L) :: own) w :=
  ⟨h.inn, h.box, h.sep, h.hR, h.fr, fun x hx => by rcases List.mem_cons.1 hx with rfl | hx; exact hv; exact h.own x hx⟩
theorem grown_set {w : World} (b o : Nat) (u : Value) : w.grownBy (w.setCell ⟨b, o, none⟩ u) (some b) :=
  ⟨rfl, rfl, rfl, by simp [World.setCell], fun k _ hr => Below.heap_setCell _ _ _ _ (by intro e; exact hr (by rw [e]))⟩
theorem Loc.set {a : Addr} {B R : Nat} {c : Rd} {q : FlowP} {W : World} {cs : Array Value} {own : List (Value × List Int)} {w : World} (h : Loc a B R c q W cs own w) (j : Nat) (u : Value) : Loc a B R c q W (cs.setIfInBounds j u) own (w.setCell ⟨W.heap.size, j, none⟩ u) := by
  have hg := grown_set (w := w) W.heap.size j u
  have hBS : B ≤ W.heap.size := Nat.le_trans h.inn.holds.ge (Nat.le_of_lt h.hR)
  have hr : ∀ e : TypeId, 55 ≠ e → ∀ k, (some W.heap.size : Option Nat) = some k → ∃ cs e', w.heap[k]? = some (.cells cs e') ∧ e' ≠ e := fun e he k hk => by injection hk with hk; subst hk; exact ⟨_, _, h.box, he⟩
  have hB2 : Below B w (w.setCell ⟨W.heap.size, j, none⟩ u) := (Below.refl _ _).setCell hBS _
  have hat : RdAt (w.setCell ⟨W.heap.size, j, none⟩ u) R c := by
    unfold RdAt; rw [Below.heap_setCell _ _ _ _ (by have := h.hR; show R ≠ W.heap.size; omega)]; exact h.inn.ok.at_
  have htab : Tab a (w.setCell ⟨W.heap.size, j, none⟩ u) := h.inn.ok.tab.grown (R := W.heap.size) (by have := h.inn.ok.ge; have := h.hR; omega) hg
  refine ⟨⟨⟨htab, hat, h.inn.ok.ge, h.inn.ok.len⟩, ⟨hat, h.inn.holds.ge, h.inn.holds.mn, h.inn.holds.mx, h.inn.holds.sv, h.inn.holds.wv, ?_, own_kept h.inn.holds.wrow hg (hr _ (by decide)), ?_⟩, h.inn.hB, h.inn.pl, h.inn.wl⟩, block_set h.box u, h.sep, h.hR, ?_, fun x hx => (h.own x hx).kept hg (hr _ (by decide))⟩
  · refine h.inn.holds.srow.kept hg ?_
    cases hv : (Value.slice q.sa q.P.length q.sc).ownBlock with
    | none => exact .inl rfl
    | some k => exact .inr (by intro e; injection e with e; have := h.sep k hv; omega)
  · exact fun p hp => ⟨(h.inn.holds.lists p hp).1.kept hg (hr _ (by decide)), (h.inn.holds.lists p hp).2.kept hg (hr _ (by decide))⟩
  · refine ⟨h.fr.below.trans hB2, fun k o hk ho hn => ?_⟩
    rw [Below.heap_setCell _ _ _ _ (by have := lt_of_block ho; show k ≠ W.heap.size; omega)]
    exact h.fr.rest k o hk ho hn
theorem Loc.pushed {a : Addr} {B R : Nat} {c : Rd} {q : FlowP} {W : World} {cs : Array Value} {own : List (Value × List Int)} {w w1 w2 : World} (h : Loc a B R c q W cs own w) (hb : Below w.heap.size w w1) (p : StepP) (hp : p.own w B) {g cap : Nat}
    (hown : w2.ownsRow B 55 7 (.slice (some ⟨g, 0, none⟩) (q.P.length + 1) cap) (q.P.length + 1) (stepRow q.P ++ p.cells)) (hgrow : w1.grownBy w2 (Value.slice q.sa q.P.length q.sc).ownBlock) :
    RdAt w2 R c ∧ RdOk a R { c with sv := .slice (some ⟨g, 0, none⟩) (q.P.length + 1) cap } (w2.setCell ⟨R, 2, none⟩ (.slice (some ⟨g, 0, none⟩) (q.P.length + 1) cap)) ∧
      Holds B R { c with sv := .slice (some ⟨g, 0, none⟩) (q.P.length + 1) cap } { q with P := q.P ++ [p], sa := some ⟨g, 0, none⟩, sc := cap } (w2.setCell ⟨R, 2, none⟩ (.slice (some ⟨g, 0, none⟩) (q.P.length + 1) cap)) ∧
      Fr B R W (w2.setCell ⟨R, 2, none⟩ (.slice (some ⟨g, 0, none⟩) (q.P.length + 1) cap)) := by
  have h1 := h.below hb
  have hp1 : p.own w1 B := ⟨hp.1.below hb, hp.2.below hb⟩
  have hB := h1.inn.lt
  have hr : ∀ e : TypeId, 55 ≠ e → ∀ k, (Value.slice q.sa q.P.length q.sc).ownBlock = some k → ∃ cs e', w1.heap[k]? = some (.cells cs e') ∧ e' ≠ e := fun e he k hk => by
    obtain ⟨cs, hcs⟩ := own_block h1.inn.holds.srow hk
    exact ⟨cs, _, hcs, he⟩
  have f12 : Fr B R w1 w2 := Fr.row (.inl rfl) h1.inn.holds.srow hgrow hB
  have r2 : RdAt w2 R c := by
    unfold RdAt
    rw [hgrow.block R h1.inn.ok.at_.lt (fun e => by
      obtain ⟨cs, e', h3, h4⟩ := hr 76 (by decide) R e.symm
      have h5 := h1.inn.ok.at_
      unfold RdAt at h5; rw [h5] at h3; injection h3 with h3; injection h3 with _ h3; exact h4 h3.symm)]
    exact h1.inn.ok.at_
  have hset := grown_set (w := w2) R 2 (.slice (some ⟨g, 0, none⟩) (q.P.length + 1) cap)
  have hR2 : ∀ e : TypeId, 76 ≠ e → ∀ k, (some R : Option Nat) = some k → ∃ cs e', w2.heap[k]? = some (.cells cs e') ∧ e' ≠ e := fun e he k hk => by injection hk with hk; subst hk; exact ⟨_, _, r2, he⟩
  have r3 : RdAt (w2.setCell ⟨R, 2, none⟩ (.slice (some ⟨g, 0, none⟩) (q.P.length + 1) cap)) R { c with sv := .slice (some ⟨g, 0, none⟩) (q.P.length + 1) cap } := r2.set 2 _ rfl
  have t2 : Tab a w2 := by
    have hBl : Below B w1 w2 := f12.below
    have c1 : ∀ {g : Nat} {v : Value}, g < B → w1.cell? ⟨g, 0, none⟩ = some v → w2.cell? ⟨g, 0, none⟩ = some v := fun hg hc => (hBl.cell (p := ⟨_, 0, none⟩) hg).trans hc
    have ht := h1.inn.ok.tab
    have h20 := h.inn.hB
    exact ⟨c1 (by omega) ht.err, tabIs_block gPow ht.tab (fun _ => hBl.block _ (by omega)), ht.syn.imp fun _ e => e.imp fun _ e => c1 (by omega) e, ht.rng.imp fun _ e => e.imp fun _ e => c1 (by omega) e, ht.mx.imp fun _ e => c1 (by omega) e⟩
  have hlen : (q.P ++ [p]).length = q.P.length + 1 := by simp
  have own2 : ∀ {v : Value} {L : List Int}, IntOwn w1 B v L → IntOwn (w2.setCell ⟨R, 2, none⟩ (.slice (some ⟨g, 0, none⟩) (q.P.length + 1) cap)) B v L := fun h0 => (h0.kept hgrow (hr _ (by decide))).kept hset (hR2 _ (by decide))
  refine ⟨r2, ⟨t2.grown h.inn.ok.ge hset, r3, h.inn.ok.ge, h.inn.ok.len⟩, ⟨r3, h.inn.holds.ge, h.inn.holds.mn, h.inn.holds.mx, by simp only [hlen], h.inn.holds.wv, ?_, own_kept (own_kept h1.inn.holds.wrow hgrow (hr _ (by decide))) hset (hR2 _ (by decide)), ?_⟩, ?_⟩
  · simp only [hlen, stepRow_snoc]; exact own_kept hown hset (hR2 _ (by decide))
  · intro x hx
    rcases List.mem_append.1 hx with hx | hx
    · exact ⟨own2 (h1.inn.holds.lists x hx).1, own2 (h1.inn.holds.lists x hx).2⟩
    · rw [List.mem_singleton] at hx; subst hx; exact ⟨own2 hp1.1, own2 hp1.2⟩
  · exact (h1.fr.trans f12).trans (Fr.only hset (Nat.le_trans hB f12.below.size) h.inn.holds.ge)
theorem Loc.bad {a : Addr} {B R : Nat} {c c0 : Rd} {q : FlowP} {W : World} {cs : Array Value} {own : List (Value × List Int)} {w : World} (h : Loc a B R c q W cs own w) (hl : c.line = c0.line) {e : Ending} {w' : World} (hb : Bad a B R c w e w') : Bad a B R c0 W e w' :=
  ⟨hb.1, h.fr.trans hb.2.1, hb.2.2.imp fun _ hc => ⟨hc.1, hc.2.trans hl⟩⟩
end Go.Proofs.YtcaclijkkbhfhaaGreatDoor
