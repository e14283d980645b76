/-
  Contract of the reader's readWindow.
-/
import Derived.Test.YtcaclijkkbhfhaaGreatDoorRStep
namespace Go.Proofs.YtcaclijkkbhfhaaGreatDoor
open Go.RowKit Go.Shelf

def v4 (f : Fl.Flow) (v : Fl.Win) (r : Fl.Rest) : Option (Fl.Flow × Fl.Rest) := if Fl.vWins 40 (f.wins ++ [v]) = true then some ({ f with wins := f.wins ++ [v] }, r) else none
def v3 (f : Fl.Flow) (x y : Int) (r : Fl.Rest) : Option (Fl.Flow × Fl.Rest) := (numOf r).bind fun p => v4 f ⟨x, y, p.1⟩ p.2
def v2 (f : Fl.Flow) (x : Int) (r : Fl.Rest) : Option (Fl.Flow × Fl.Rest) := (numOf r).bind fun p => v3 f x p.1 p.2
def v1 (f : Fl.Flow) (r : Fl.Rest) : Option (Fl.Flow × Fl.Rest) := (numOf r).bind fun p => v2 f p.1 p.2
theorem win_eq (f : Fl.Flow) (r : Fl.Rest) : Fl.readWin f r = v1 f r := by simp only [Fl.readWin, num_eq]; rfl

theorem In.pushed {a : Addr} {B R : Nat} {c : Rd} {q : FlowP} {w w1 w2 : World} (h : In a B R c q w) (hb : Below w.heap.size w w1) (v : Fl.Win) {g cap : Nat}
    (hown : w2.ownsRow B 58 3 (.slice (some ⟨g, 0, none⟩) (q.W.length + 1) cap) (q.W.length + 1) (winRow q.W ++ winCells v)) (hgrow : w1.grownBy w2 (Value.slice q.wa q.W.length q.wc).ownBlock) :
    RdAt w2 R c ∧ RdOk a R { c with wv := .slice (some ⟨g, 0, none⟩) (q.W.length + 1) cap } (w2.setCell ⟨R, 3, none⟩ (.slice (some ⟨g, 0, none⟩) (q.W.length + 1) cap)) ∧
      Holds B R { c with wv := .slice (some ⟨g, 0, none⟩) (q.W.length + 1) cap } { q with W := q.W ++ [v], wa := some ⟨g, 0, none⟩, wc := cap } (w2.setCell ⟨R, 3, none⟩ (.slice (some ⟨g, 0, none⟩) (q.W.length + 1) cap)) ∧
      Fr B R w (w2.setCell ⟨R, 3, none⟩ (.slice (some ⟨g, 0, none⟩) (q.W.length + 1) cap)) := by
  have h1 := h.below hb
  have hB := h1.lt
  have hr : ∀ e : TypeId, 58 ≠ e → ∀ k, (Value.slice q.wa q.W.length q.wc).ownBlock = some k → ∃ cs e', w1.heap[k]? = some (.cells cs e') ∧ e' ≠ e := fun e he k hk => by
    obtain ⟨cs, hcs⟩ := own_block h1.holds.wrow hk
    exact ⟨cs, _, hcs, he⟩
  have f12 : Fr B R w1 w2 := Fr.row (.inr rfl) h1.holds.wrow hgrow hB
  have r2 : RdAt w2 R c := by
    unfold RdAt
    rw [hgrow.block R h1.ok.at_.lt (fun e => by
      obtain ⟨cs, e', h3, h4⟩ := hr 76 (by decide) R e.symm
      have h5 := h1.ok.at_
      unfold RdAt at h5; rw [h5] at h3; injection h3 with h3; injection h3 with _ h3; exact h4 h3.symm)]
    exact h1.ok.at_
  have hset := grown_set (w := w2) R 3 (.slice (some ⟨g, 0, none⟩) (q.W.length + 1) cap)
  have hR2 : ∀ e : TypeId, 76 ≠ e → ∀ k, (some R : Option Nat) = some k → ∃ cs e', w2.heap[k]? = some (.cells cs e') ∧ e' ≠ e := fun e he k hk => by injection hk with hk; subst hk; exact ⟨_, _, r2, he⟩
  have r3 : RdAt (w2.setCell ⟨R, 3, none⟩ (.slice (some ⟨g, 0, none⟩) (q.W.length + 1) cap)) R { c with wv := .slice (some ⟨g, 0, none⟩) (q.W.length + 1) cap } := r2.set 3 _ rfl
  have t2 : Tab a w2 := by
    have hBl : Below B w1 w2 := f12.below
    have c1 : ∀ {g : Nat} {v : Value}, g < B → w1.cell? ⟨g, 0, none⟩ = some v → w2.cell? ⟨g, 0, none⟩ = some v := fun hg hc => (hBl.cell (p := ⟨_, 0, none⟩) hg).trans hc
    have ht := h1.ok.tab
    have h20 := h.hB
    exact ⟨c1 (by omega) ht.err, tabIs_block gPow ht.tab (fun _ => hBl.block _ (by omega)), ht.syn.imp fun _ e => e.imp fun _ e => c1 (by omega) e, ht.rng.imp fun _ e => e.imp fun _ e => c1 (by omega) e, ht.mx.imp fun _ e => c1 (by omega) e⟩
  have hlen : (q.W ++ [v]).length = q.W.length + 1 := by simp
  have own2 : ∀ {v : Value} {L : List Int}, IntOwn w1 B v L → IntOwn (w2.setCell ⟨R, 3, none⟩ (.slice (some ⟨g, 0, none⟩) (q.W.length + 1) cap)) B v L := fun h0 => (h0.kept hgrow (hr _ (by decide))).kept hset (hR2 _ (by decide))
  refine ⟨r2, ⟨t2.grown h.ok.ge hset, r3, h.ok.ge, h.ok.len⟩, ⟨r3, h.holds.ge, h.holds.mn, h.holds.mx, h.holds.sv, by simp only [hlen], own_kept (own_kept h1.holds.srow hgrow (hr _ (by decide))) hset (hR2 _ (by decide)), ?_, ?_⟩, ?_⟩
  · simp only [hlen, winRow_snoc]; exact own_kept hown hset (hR2 _ (by decide))
  · intro x hx; exact ⟨own2 (h1.holds.lists x hx).1, own2 (h1.holds.lists x hx).2⟩
  · exact ((Fr.ofBelow hb h.lt).trans f12).trans (Fr.only hset (Nat.le_trans hB f12.below.size) h.holds.ge)
theorem vw_pushed {B R : Nat} {c : Rd} {q : FlowP} {v : Fl.Win} {g cap : Nat} {w : World} (hH : Holds B R c { q with W := q.W ++ [v], wa := some ⟨g, 0, none⟩, wc := cap } w) :
    Calls Tryz.prog 31 #[.slice (some ⟨g, 0, none⟩) (q.W.length + 1) cap, .int .i64 40] w fun e w' => e = .returned (.bool (Fl.vWins 40 (q.f.wins ++ [v]))) ∧ Below w.heap.size w w' := by
  have h := validWindows_any (q.W ++ [v]) 40 (some ⟨g, 0, none⟩) cap w hH.ok.2 (by omega)
  rw [List.length_append, List.length_singleton] at h
  exact h
theorem win_fail {a : Addr} {B R : Nat} {c c' : Rd} {q : FlowP} {v : Fl.Win} {r : Fl.Rest} {X : Option (Fl.Flow × Fl.Rest)} {W w : World} (hX : X = v4 q.f v r) (hV : Fl.vWins 40 (q.f.wins ++ [v]) = false) (hok : RdOk a R c' w) (hf : Fr B R W w) (hl : c'.line = c.line) :
    RdPost a B R c X W (raised a) w := by
  have : X = none := by rw [hX, v4, if_neg (by rw [hV]; decide)]
  rw [this]; exact ⟨rfl, hf, _, hok.at_, hl⟩
theorem win_done {a : Addr} {B R : Nat} {c c' : Rd} {q : FlowP} {v : Fl.Win} {g cap : Nat} {r : Fl.Rest} {X : Option (Fl.Flow × Fl.Rest)} {W w : World} (hX : X = v4 q.f v r) (hV : Fl.vWins 40 (q.f.wins ++ [v]) = true) (hok : RdOk a R c' w)
    (hh : Holds B R c' { q with W := q.W ++ [v], wa := some ⟨g, 0, none⟩, wc := cap } w) (hf : Fr B R W w) (h20 : 7 ≤ B) (hpl : q.P.length ≤ 40) (hl : c'.line = c.line) (hr : c'.r = r) (hla : c'.last = c.last) :
    RdPost a B R c X W (.returned (.tuple #[])) w := by
  have : X = some ({ q.f with wins := q.f.wins ++ [v] }, r) := by rw [hX, v4, if_pos hV]
  rw [this]
  refine ⟨rfl, hf, c', _, ⟨hok, hh, h20, hpl, ?_⟩, rfl, hr, hl, hla⟩
  unfold Fl.vWins at hV; simp [FlowP.f] at hV; simp; omega
theorem info_win : (Tryz.prog.info? 58).map (fun i => (i.zero, i.size, i.bytes)) = some (some (.agg #[.int .i64 0, .int .i64 0, .int .i64 0]), 3, 24) := by kernel_rfl
theorem Bad.after {a : Addr} {B R : Nat} {c c0 : Rd} {q : FlowP} {W w w' : World} {e : Ending} (h : In a B R c0 q W) (ho : Only R W w) (hl : c.line = c0.line) (hb : Bad a B R c w e w') : Bad a B R c0 W e w' :=
  ⟨hb.1, (Fr.only ho h.lt h.holds.ge).trans hb.2.1, hb.2.2.imp fun _ hc => ⟨hc.1, hc.2.trans hl⟩⟩

set_option maxRecDepth 100000 in
set_option maxHeartbeats 2000000 in
theorem readWindow_any (a : Addr) (B R : Nat) (c : Rd) (q : FlowP) (W : World) (h : In a B R c q W) :
    Calls Tryz.prog 93 #[.pointer (some ⟨R, 0, none⟩)] W (RdPost a B R c (Fl.readWin q.f c.r) W) := by
  rw [win_eq]
  obtain ⟨X, HX⟩ : ∃ X, Hid (X = v1 q.f c.r) := ⟨_, Lib.hid rfl⟩
  rw [← HX.out]
  have I0 := Lib.hid h
  have HN := Lib.hid (fun w ht => require_no w a ht)
  clear h
  go_enter Tryz.func93, Tryz.ntmps93
  go_wp2_with fail
  rcases h1 : numOf c.r with _ | ⟨x, r1⟩
  · have HC := Lib.hid (num_no I0.out h1)
    have E := Lib.hid h1; clear h1
    refine HC.out.mono ?_; rintro e w2 ⟨rfl, f2, c2, r2, l2⟩
    go_wp2_with fail
    have hX : X = none := by rw [HX.out, v1, E.out]; rfl
    exact ⟨rfl, by rw [hX]; exact ⟨rfl, f2, c2, r2, l2⟩⟩
  have HC := Lib.hid (num_yes I0.out h1)
  have HX := Lib.hid (show X = v2 q.f x r1 by rw [HX.out, v1, h1]; rfl); clear h1
  refine HC.out.mono ?_; rintro e w1 ⟨rfl, o1, i1⟩
  have O1 := Lib.hid o1; have I1 : Hid (In a B R { c with r := r1 } q w1) := Lib.hid i1; clear o1 i1 HC
  go_wp2_with fail
  rcases h2 : numOf r1 with _ | ⟨y, r2⟩
  · have HC := Lib.hid (num_no I1.out h2)
    have E := Lib.hid h2; clear h2
    refine HC.out.mono ?_; rintro e w2 ⟨rfl, f2, c2, r2, l2⟩
    go_wp2_with fail
    have hX : X = none := by rw [HX.out, v2, E.out]; rfl
    exact ⟨rfl, by rw [hX]; exact Bad.after I0.out O1.out rfl ⟨rfl, f2, c2, r2, l2⟩⟩
  have HC := Lib.hid (num_yes I1.out h2)
  have HX := Lib.hid (show X = v3 q.f x y r2 by rw [HX.out, v2, h2]; rfl); clear h2
  refine HC.out.mono ?_; rintro e w2 ⟨rfl, o1, i1⟩
  have O2 := Lib.hid (O1.out.trans o1); have I2 : Hid (In a B R { c with r := r2 } q w2) := Lib.hid i1; clear o1 i1 HC
  go_wp2_with fail
  rcases h3 : numOf r2 with _ | ⟨l, r3⟩
  · have HC := Lib.hid (num_no I2.out h3)
    have E := Lib.hid h3; clear h3
    refine HC.out.mono ?_; rintro e w2 ⟨rfl, f2, c2, r2, l2⟩
    go_wp2_with fail
    have hX : X = none := by rw [HX.out, v3, E.out]; rfl
    exact ⟨rfl, by rw [hX]; exact Bad.after I0.out O2.out rfl ⟨rfl, f2, c2, r2, l2⟩⟩
  have HC := Lib.hid (num_yes I2.out h3)
  have HX := Lib.hid (show X = v4 q.f ⟨x, y, l⟩ r3 by rw [HX.out, v3, h3]; rfl); clear h3
  refine HC.out.mono ?_; rintro e w3 ⟨rfl, o1, i1⟩
  have O3 := Lib.hid (O2.out.trans o1); have I3 : Hid (In a B R { c with r := r3 } q w3) := Lib.hid i1; clear o1 i1 HC O1 O2 I1 I2
  go_wp2_with fail
  have hb := heap_alloc_new w3 (.cells #[.int .i64 x, .int .i64 y, .int .i64 l] 58)
  have B4 := Lib.hid (below_new w3 (.cells #[.int .i64 x, .int .i64 y, .int .i64 l] 58))
  have hs3 : w3.heap.size < (w3.alloc (.cells #[.int .i64 x, .int .i64 y, .int .i64 l] 58)).heap.size := by simp
  generalize w3.alloc (.cells #[.int .i64 x, .int .i64 y, .int .i64 l] 58) = w4 at *
  have I4 := Lib.hid (I3.out.below B4.out)
  have F4 := Lib.hid ((Fr.only O3.out I0.out.lt I0.out.holds.ge).trans (Fr.ofBelow B4.out I3.out.lt))
  have b0 := box_cell hb 0 _ rfl; have b1 := box_cell hb 1 _ rfl; have b2 := box_cell hb 2 _ rfl
  have HWA := Lib.hid ((below_new w4 (.cells #[.int .i64 x, .int .i64 y, .int .i64 l] 58)).drew)
  have HO := Lib.hid (own_below I4.out.holds.wrow HWA.out)
  have HNW : Hid (∀ j u, [Value.int .i64 x, .int .i64 y, .int .i64 l][j]? = some u → ((w4.alloc (.cells #[.int .i64 x, .int .i64 y, .int .i64 l] 58)).drew).cell? ((⟨w4.heap.size, 0, none⟩ : Addr).add j) = some u) := Lib.hid (World.news_of_block (cs := #[.int .i64 x, .int .i64 y, .int .i64 l]) (t := 58) (fr := (0, 0)) (heap_alloc_new w4 _))
  have HQ : Hid (∀ g cap w2, w2.ownsRow B 58 3 (.slice (some ⟨g, 0, none⟩) (q.W.length + 1) cap) (q.W.length + 1) (winRow q.W ++ [.int .i64 x, .int .i64 y, .int .i64 l]) → ((w4.alloc (.cells #[.int .i64 x, .int .i64 y, .int .i64 l] 58)).drew).grownBy w2 (Value.slice q.wa q.W.length q.wc).ownBlock → _) := Lib.hid fun g cap w2 h1 h2 => I4.out.pushed (g := g) (cap := cap) (w2 := w2) HWA.out ⟨x, y, l⟩ h1 h2
  have hBs := I4.out.lt
  have hwl := I4.out.wl
  have x2 : w4.cell? ⟨R, 3, none⟩ = some (.slice q.wa q.W.length q.wc) := by have h0 := I4.out.ok.at_.cell 3 c.wv rfl; rw [I4.out.holds.wv] at h0; exact h0
  have x2a : (w4.alloc (.cells #[.int .i64 x, .int .i64 y, .int .i64 l] 58)).cell? ⟨R, 3, none⟩ = some (.slice q.wa q.W.length q.wc) := cell_below (below_new _ _) x2
  obtain ⟨i0, hi, hz0, hz1, hz2⟩ := info_parts info_win
  clear hb
  go_region_law (refine step_append_lies _ (by rfl) _ _ _ (by rfl) B 58 i0 _ 3 24 Tryz.underlying23 hi hz0 hz1 hz2 rfl (by decide) (.slice q.wa q.W.length q.wc) q.W.length (winRow q.W) (by rfl) HO.out ⟨w4.heap.size, 0, none⟩ 1 1 [.int .i64 x, .int .i64 y, .int .i64 l] (by rfl) (by rfl) HNW.out (by simp [Value.oneCell']) (by decide) (by unfold maxLen; omega) (by omega) (by simp; omega) (w4.heap.size + 1) (by simp) ?_; intro g cap w2 hown2 hgrow hat hlt2; have hq := HQ.out g cap w2 hown2 hgrow; have z2 := hq.1.fz 3; have y2 := hq.1.cell 3 _ rfl)
  all_goals
    have F := Lib.hid (HQ.out g cap w2 hown2 hgrow)
    clear hq z2 y2 hown2 hgrow hat hlt2 x2 x2a b0 b1 b2 hs3
    generalize w2.setCell ⟨R, 3, none⟩ (.slice (some ⟨g, 0, none⟩) (q.W.length + 1) cap) = w5 at *
    have y3 : w5.cell? ⟨R, 3, none⟩ = some (.slice (some ⟨g, 0, none⟩) (q.W.length + 1) cap) := F.out.2.1.at_.cell 3 _ rfl
    obtain ⟨V, hV⟩ : ∃ V, Fl.vWins 40 (q.f.wins ++ [⟨x, y, l⟩]) = V := ⟨_, rfl⟩
    have hvs := vw_pushed F.out.2.2.1
    rw [hV] at hvs
    have HVS := Lib.hid hvs; have HV := Lib.hid hV; clear hvs hV
    go_wp2_with fail
    clear y3
    refine HVS.out.mono ?_; rintro e w6 ⟨rfl, g4⟩
    have G4 := Lib.hid g4; clear g4
    cases V
    · go_wp2_with fail
      refine (HN.out _ (F.out.2.1.tab.below G4.out)).mono ?_; rintro e w7 ⟨rfl, rfl⟩
      go_wp2_with fail
      exact ⟨rfl, win_fail HX.out HV.out (F.out.2.1.below G4.out) ((F4.out.trans F.out.2.2.2).trans (Fr.ofBelow G4.out F.out.2.2.1.le)) rfl⟩
    · go_wp2_with fail
      refine (require_yes _).mono ?_; rintro e w7 ⟨rfl, rfl⟩
      go_wp2_with fail
      go_end0
      exact win_done HX.out HV.out (F.out.2.1.below G4.out) (F.out.2.2.1.below G4.out) ((F4.out.trans F.out.2.2.2).trans (Fr.ofBelow G4.out F.out.2.2.1.le)) I4.out.hB I4.out.pl rfl rfl rfl
end Go.Proofs.YtcaclijkkbhfhaaGreatDoor
