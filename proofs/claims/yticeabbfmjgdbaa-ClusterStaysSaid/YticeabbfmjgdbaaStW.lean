/-
  ClusterStays.
-/
import Derived.Test.YticeabbfmjgdbaaTwoW
import Derived.StillTailTactics
namespace Go.Proofs.Yticeabbfmjgdbaa
open Go.RowKit Go.Shelf Cl
open Cy (Arc)

/-- The chambers, the stays of the first k of them longer. -/
def addTo (l : List Int) (L : List Cham) (k : Nat) : List Cham := (List.range L.length).map fun i => if i < k then ⟨(L.getD i ⟨0, 0⟩).t, (L.getD i ⟨0, 0⟩).s + pickZ (l.getD i 0) 50⟩ else L.getD i ⟨0, 0⟩
theorem addTo_len (l : List Int) (L : List Cham) (k : Nat) : (addTo l L k).length = L.length := by simp [addTo]
theorem addTo_at (l : List Int) (L : List Cham) (k i : Nat) (h : i < L.length) : (addTo l L k).getD i ⟨0, 0⟩ = if i < k then ⟨(L.getD i ⟨0, 0⟩).t, (L.getD i ⟨0, 0⟩).s + pickZ (l.getD i 0) 50⟩ else L.getD i ⟨0, 0⟩ := by
  unfold addTo; rw [List.getD_eq_getElem?_getD, List.getElem?_map, List.getElem?_range h]; rfl
theorem cham_ext {A B : List Cham} (hl : A.length = B.length) (h : ∀ i, i < A.length → A.getD i ⟨0, 0⟩ = B.getD i ⟨0, 0⟩) : A = B := by
  refine List.ext_getElem hl fun i h1 h2 => ?_
  have := h i h1
  rwa [List.getD_eq_getElem?_getD, List.getD_eq_getElem?_getD, List.getElem?_eq_getElem h1, List.getElem?_eq_getElem h2] at this
theorem chGetSet (L : List Cham) (k i : Nat) (v : Cham) (h : k < L.length) : (L.set k v).getD i ⟨0, 0⟩ = if k = i then v else L.getD i ⟨0, 0⟩ := by
  rw [List.getD_eq_getElem?_getD, List.getElem?_set]
  split
  · rename_i e; subst e; simp
  · rw [← List.getD_eq_getElem?_getD]
theorem addTo_zero (l : List Int) (L : List Cham) : addTo l L 0 = L := cham_ext (addTo_len l L 0) fun i hi => by
  rw [addTo_len] at hi; rw [addTo_at l L 0 i hi, if_neg (by omega)]
theorem addTo_succ (l : List Int) (L : List Cham) {k : Nat} (hk : k < L.length) : addTo l L (k + 1) = (addTo l L k).set k ⟨(L.getD k ⟨0, 0⟩).t, (L.getD k ⟨0, 0⟩).s + pickZ (l.getD k 0) 50⟩ :=
  cham_ext (by simp [addTo_len]) fun i hi => by
    rw [addTo_len] at hi
    rw [addTo_at l L _ i hi, chGetSet _ _ _ _ (by rw [addTo_len]; exact hk)]
    by_cases e : k = i
    · subst e; rw [if_pos (by omega), if_pos rfl]
    · rw [if_neg e, addTo_at l L k i hi]
      by_cases h2 : i < k
      · rw [if_pos h2, if_pos (by omega)]
      · rw [if_neg h2, if_neg (by omega)]
theorem longer_of {c d : Tool} {l : List Int} (h1 : d.pick = c.pick) (h2 : d.place = c.place) (h3 : d.travel = c.travel) (h4 : d.blades = c.blades) (h5 : d.chs = addTo l c.chs c.chs.length) : Longer c d := by
  refine ⟨h1, h2, h3, h4, by rw [h5, addTo_len], fun i => ?_⟩
  rw [h5]
  by_cases hi : i < c.chs.length
  · rw [addTo_at l c.chs _ i hi, if_pos hi]
    have := pickZ_bd (c := l.getD i 0) (n := 50) (by omega)
    exact ⟨rfl, by show _ ≤ _ + _; omega⟩
  · rw [List.getD_eq_getElem?_getD, List.getD_eq_getElem?_getD, List.getElem?_eq_none (by rw [addTo_len]; omega), List.getElem?_eq_none (by omega)]
    exact ⟨rfl, Int.le_refl _⟩
theorem addTo_valid {c : Tool} (hv : validT c = true) (h40 : ∀ x ∈ c.chs, x.s ≤ 40) (l : List Int) : validT ⟨addTo l c.chs c.chs.length, c.pick, c.place, c.travel, c.blades⟩ = true := by
  obtain ⟨h1, h2, h3, h4, h5, h6⟩ := validT_iff.1 hv
  refine validT_iff.2 ⟨h1, h2, h3, h4, by rw [addTo_len]; exact h5, fun y hy => ?_⟩
  obtain ⟨i, hi, e⟩ := List.getElem_of_mem hy
  have hi2 : i < c.chs.length := by rw [addTo_len] at hi; exact hi
  have e2 := addTo_at l c.chs c.chs.length i hi2
  have e3 : (addTo l c.chs c.chs.length).getD i ⟨0, 0⟩ = y := by rw [List.getD_eq_getElem?_getD, List.getElem?_eq_getElem hi]; exact e
  rw [e3, if_pos hi2] at e2
  have hm := chAt_mem (c := c) hi2
  have a1 := h6 _ hm
  have a2 := h40 _ hm
  have a3 := pickZ_bd (c := l.getD i 0) (n := 50) (by omega)
  rw [e2]
  generalize c.chs.getD i ⟨0, 0⟩ = z at *
  generalize pickZ (l.getD i 0) 50 = pz at *
  exact ⟨a1.1, by show 0 ≤ z.s + pz; omega, by show z.s + pz ≤ 100000; omega⟩
theorem mkT_40 (x0 x1 x2 x3 x4 : Int) (X : List (List Int)) : ∀ y ∈ (mkT x0 x1 x2 x3 x4 X).chs, y.s ≤ 40 := fun y hy => by
  simp only [mkT, mkTo, List.mem_map] at hy
  obtain ⟨i, _, rfl⟩ := hy
  have h6 := pickZ_bd (c := (X.getD i [x4, x4]).getD 1 0) (n := 40) (by omega)
  simp only [mkCh]; omega
abbrev dlObj (c : Tool) (D cap : Nat) : Obj := .cells #[.slice (some ⟨D, 0, none⟩) c.chs.length cap, .int .i64 c.pick, .int .i64 c.place, .int .i64 c.travel, .int .i64 c.blades] 24
theorem dl_cells {b1 : Nat} {c : Tool} {D cap : Nat} {W : World} (h : W.heap[b1]? = some (dlObj c D cap)) :
    W.cell? ⟨b1, 0, none⟩ = some (.slice (some ⟨D, 0, none⟩) c.chs.length cap) ∧ W.cell? ⟨b1, 1, none⟩ = some (.int .i64 c.pick) ∧ W.cell? ⟨b1, 2, none⟩ = some (.int .i64 c.place) ∧ W.cell? ⟨b1, 3, none⟩ = some (.int .i64 c.travel) ∧ W.cell? ⟨b1, 4, none⟩ = some (.int .i64 c.blades) :=
  ⟨box_cell h 0 _ rfl, box_cell h 1 _ rfl, box_cell h 2 _ rfl, box_cell h 3 _ rfl, box_cell h 4 _ rfl⟩
/-- A row of chambers in a block of its own. -/
def RowX (w : World) (D : Nat) (L : List Cham) : Prop := ∃ cur : Array Value, w.heap[D]? = some (.cells cur 60) ∧ ∀ i, i < L.length → cur[i * 2]? = some (.int .i64 (L.getD i ⟨0, 0⟩).t) ∧ cur[i * 2 + 1]? = some (.int .i64 (L.getD i ⟨0, 0⟩).s)
theorem RowX.below {w w' : World} {D : Nat} {L : List Cham} (h : RowX w D L) (hb : Below w.heap.size w w') : RowX w' D L := by
  obtain ⟨cur, h1, h2⟩ := h; exact ⟨cur, box_below h1 hb, h2⟩
theorem RowX.of_heap {w v : World} {D : Nat} {L : List Cham} (h : RowX w D L) (e : v.heap = w.heap) : RowX v D L := by unfold RowX at *; rw [e]; exact h
theorem RowX.cell {w : World} {D : Nat} {L : List Cham} (h : RowX w D L) {i : Nat} (hi : i < L.length) : w.cell? ⟨D, i * 2, none⟩ = some (.int .i64 (L.getD i ⟨0, 0⟩).t) ∧ w.cell? ⟨D, i * 2 + 1, none⟩ = some (.int .i64 (L.getD i ⟨0, 0⟩).s) ∧ w.frozen? ⟨D, i * 2 + 1, none⟩ = false ∧ D < w.heap.size := by
  obtain ⟨cur, h1, h2⟩ := h
  exact ⟨box_cell h1 _ _ (h2 i hi).1, box_cell h1 _ _ (h2 i hi).2, box_fz h1 _, lt_of_block h1⟩
theorem RowX.set {w : World} {D : Nat} {L : List Cham} (h : RowX w D L) {i : Nat} (hi : i < L.length) (v : Int) : RowX (w.setCell ⟨D, i * 2 + 1, none⟩ (.int .i64 v)) D (L.set i ⟨(L.getD i ⟨0, 0⟩).t, v⟩) := by
  obtain ⟨cur, h1, h2⟩ := h
  refine ⟨_, block_set h1 _, fun j hj => ?_⟩
  rw [List.length_set] at hj
  have hsz : i * 2 + 1 < cur.size := (Array.getElem?_eq_some_iff.1 (h2 i hi).2).1
  rw [Array.getElem?_setIfInBounds, Array.getElem?_setIfInBounds, chGetSet _ _ _ _ hi]
  by_cases e : i = j
  · subst e
    have e3 : ¬ i * 2 + 1 = i * 2 := by omega
    simp only [if_neg e3, if_pos hsz]
    exact ⟨(h2 i hi).1, rfl⟩
  · have e3 : ¬ i * 2 + 1 = j * 2 := by omega
    have e4 : ¬ i * 2 + 1 = j * 2 + 1 := by omega
    simp only [if_neg e3, if_neg e4, if_neg e]
    exact h2 j hj
theorem RowX.arg {w : World} {D : Nat} {L : List Cham} (h : RowX w D L) {cap : Nat} (h1 : L.length ≤ cap) (h2 : cap ≤ maxLen) : ChA w (some ⟨D, 0, none⟩) cap L := by
  refine ⟨h1, h2, fun i hi => ⟨D, 0, rfl, by obtain ⟨cur, k1, _⟩ := h; exact lt_of_block k1, fun j v hv => ?_⟩⟩
  obtain ⟨c1, c2, -, -⟩ := h.cell hi
  rw [List.getD_eq_getElem?_getD, List.getElem?_eq_getElem hi] at c1 c2
  have hj : j < 2 := (List.getElem?_eq_some_iff.1 hv).1
  obtain rfl | rfl : j = 0 ∨ j = 1 := by omega
  · simp only [chamCells, List.getElem?_cons_zero, Option.some.injEq] at hv; subst hv
    rw [show 0 + i * 2 + 0 = i * 2 by omega]; exact c1
  · simp only [chamCells, List.getElem?_cons_succ, List.getElem?_cons_zero, Option.some.injEq] at hv; subst hv
    rw [show 0 + i * 2 + 1 = i * 2 + 1 by omega]; exact c2
theorem flat_ch_len (A : List Cham) : (A.flatMap chamCells).length = A.length * 2 := by
  induction A with
  | nil => rfl
  | cons a A ih => rw [List.flatMap_cons, List.length_append, ih, cham_len, List.length_cons]; omega
theorem RowX.of_own {w : World} {B D n cap : Nat} {L : List Cham} (h : w.ownsRow B 60 2 (.slice (some ⟨D, 0, none⟩) n cap) n (L.flatMap chamCells)) : RowX w D L := by
  obtain ⟨cs, hcs⟩ := own_block (k := D) h rfl
  have hc := h.cells (g := D) rfl
  refine ⟨cs, hcs, fun i hi => ?_⟩
  have f0 := flat_at chamCells 2 cham_len L i 0 hi (by omega)
  have f1 := flat_at chamCells 2 cham_len L i 1 hi (by omega)
  have g0 := hc (i * 2 + 0) (.int .i64 L[i].t) (by rw [f0]; rfl)
  have g1 := hc (i * 2 + 1) (.int .i64 L[i].s) (by rw [f1]; rfl)
  rw [List.getD_eq_getElem?_getD, List.getElem?_eq_getElem hi]
  have key : ∀ o v, w.cell? ((⟨D, 0, none⟩ : Addr).add o) = some v → cs[o]? = some v := fun o v hv => by
    have e : w.cell? ((⟨D, 0, none⟩ : Addr).add o) = cs[o]? := by cases o <;> simp [Addr.add, World.cell?, hcs]
    rw [← e]; exact hv
  exact ⟨key _ _ g0, key _ _ g1⟩
/-- The boxes of the law: the tool, the one with longer stays, by how much. -/
structure StAt (W : World) (c : Tool) (a : Option Addr) (k b1 b2 D cap : Nat) (l0 l1 l2 l3 : Int) (L : List Cham) (w : World) : Prop where
  tool : w.heap[b1]? = some (tlObj c c.blades a k)
  dbox : w.heap[b2]? = some (dlObj c D cap)
  lng : w.heap[W.heap.size + 1]? = some (.cells #[.int .i64 l0, .int .i64 l1, .int .i64 l2, .int .i64 l3] 66)
  ch : ChA w a k c.chs
  row : RowX w D L
  bel : Below W.heap.size W w
theorem StAt.set {W : World} {c : Tool} {x : Addr} {k b1 b2 D cap : Nat} {l0 l1 l2 l3 : Int} {L : List Cham} {w : World} (h : StAt W c (some x) k b1 b2 D cap l0 l1 l2 l3 L w) (h1 : b1 ≠ D) (h2 : b2 ≠ D) (h3 : W.heap.size + 1 < D) (h4 : x.block ≠ D) {i : Nat} (hi : i < L.length) (v : Int) :
    StAt W c (some x) k b1 b2 D cap l0 l1 l2 l3 (L.set i ⟨(L.getD i ⟨0, 0⟩).t, v⟩) (w.setCell ⟨D, i * 2 + 1, none⟩ (.int .i64 v)) := by
  have hc : Ch (fun i => i = D) w (w.setCell ⟨D, i * 2 + 1, none⟩ (.int .i64 v)) := Ch.grown (grown_set (w := w) D (i * 2 + 1) _) (fun i e => by injection e with e; exact e.symm)
  exact ⟨(hc.block b1 (lt_of_block h.tool) h1).trans h.tool, (hc.block b2 (lt_of_block h.dbox) h2).trans h.dbox, (hc.block _ (lt_of_block h.lng) (by omega)).trans h.lng, h.ch.ch hc (fun y hy => by injection hy with hy; subst hy; exact h4), h.row.set hi v, h.bel.grown (grown_set (w := w) D (i * 2 + 1) _) h.bel.size (fun j e => by injection e with e; omega)⟩
theorem StAt.below {W : World} {c : Tool} {a : Option Addr} {k b1 b2 D cap : Nat} {l0 l1 l2 l3 : Int} {L : List Cham} {w w' : World} (h : StAt W c a k b1 b2 D cap l0 l1 l2 l3 L w) (hb : Below w.heap.size w w') : StAt W c a k b1 b2 D cap l0 l1 l2 l3 L w' :=
  ⟨box_below h.tool hb, box_below h.dbox hb, box_below h.lng hb, h.ch.below hb, h.row.below hb, below_step h.bel hb⟩
set_option maxRecDepth 100000 in
set_option maxHeartbeats 4000000 in
theorem stays_law (x0 x1 x2 x3 x4 : Int) (xa : Option Addr) (xc : Nat) (X : List (List Int)) (l0 l1 l2 l3 : Int) (W : World) (h0 : Fits x0) (h1 : Fits x1) (h2 : Fits x2) (h3 : Fits x3) (h4 : Fits x4) (hX : ArrsA 2 W xa xc X) (u0 : Fits l0) (u1 : Fits l1) (u2 : Fits l2) (u3 : Fits l3) :
    Calls Try.prog 8 #[fiveV x0 x1 x2 x3 x4, .slice xa X.length xc, .agg #[.int .i64 l0, .int .i64 l1, .int .i64 l2, .int .i64 l3]] W fun e w' => e = .returned (.bool true) ∧ Below W.heap.size W w' := by
  have hv0 := mkT_valid x0 x1 x2 x3 x4 X
  have HMk := Lib.hid (fun (w : World) (h : Below W.heap.size W w) => rMake_any x0 x1 x2 x3 x4 h0 h1 h2 h3 h4 X xa xc w (hX.below h))
  unfold MakeP at HMk
  have h40 := mkT_40 x0 x1 x2 x3 x4 X
  generalize mkT x0 x1 x2 x3 x4 X = c at *
  have HV := Lib.hid hv0
  have HSn := Lib.hid sane13_any
  have HX := Lib.hid (box_below (heap_alloc_new W (fiveObj x0 x1 x2 x3 x4)) (below_new _ (.cells #[.int .i64 l0, .int .i64 l1, .int .i64 l2, .int .i64 l3] 66)))
  have HB := Lib.hid (below_step (below_new W (fiveObj x0 x1 x2 x3 x4)) (below_new _ (.cells #[.int .i64 l0, .int .i64 l1, .int .i64 l2, .int .i64 l3] 66)))
  have HBe := Lib.hid (fun (d : Tool) (w : World) (a : Option Addr) (k : Nat) (h : ChA w a k d.chs) => (show Calls Try.prog 22 #[tlV d d.blades a k] w (BestP d w) from cBest_any d a k w h))
  have H40 := Lib.hid h40
  have HPk := Lib.hid (fun (i : Nat) (hi : i < 4) (w : World) => (show Calls Try.prog 30 #[.int .i64 ([l0, l1, l2, l3].getD i 0), .int .i64 50] w fun e w' => e = .returned (.int .i64 (pickZ ([l0, l1, l2, l3].getD i 0) 50)) ∧ w' = w from by
    obtain rfl | rfl | rfl | rfl : i = 0 ∨ i = 1 ∨ i = 2 ∨ i = 3 := by omega
    · exact pick_is l0 50 u0 (by omega) w
    · exact pick_is l1 50 u1 (by omega) w
    · exact pick_is l2 50 u2 (by omega) w
    · exact pick_is l3 50 u3 (by omega) w))
  have HL := Lib.hid (show ((W.alloc (fiveObj x0 x1 x2 x3 x4)).alloc (.cells #[.int .i64 l0, .int .i64 l1, .int .i64 l2, .int .i64 l3] 66)).heap[W.heap.size + 1]? = some (.cells #[.int .i64 l0, .int .i64 l1, .int .i64 l2, .int .i64 l3] 66) from by
    have := heap_alloc_new (W.alloc (fiveObj x0 x1 x2 x3 x4)) (.cells #[.int .i64 l0, .int .i64 l1, .int .i64 l2, .int .i64 l3] 66)
    rw [show (W.alloc (fiveObj x0 x1 x2 x3 x4)).heap.size = W.heap.size + 1 by simp] at this; exact this)
  clear h0 h1 h2 h3 h4 hX hv0 h40 u0 u1 u2 u3
  go_enter Try.func8, Try.ntmps8
  go_wp2_with fail
  refine (HSn.out _).mono ?_
  rintro _ w1 ⟨rfl, b1⟩
  have HX1 := Lib.hid (box_below HX.out b1); have B1 := Lib.hid (below_step HB.out b1); have L1 := Lib.hid (box_below HL.out b1)
  have e0 : w1.cell? ⟨W.heap.size, 0, none⟩ = some (.int .i64 x0) := box_cell HX1.out 0 _ rfl
  have e1 : w1.cell? ⟨W.heap.size, 1, none⟩ = some (.int .i64 x1) := box_cell HX1.out 1 _ rfl
  have e2 : w1.cell? ⟨W.heap.size, 2, none⟩ = some (.int .i64 x2) := box_cell HX1.out 2 _ rfl
  have e3 : w1.cell? ⟨W.heap.size, 3, none⟩ = some (.int .i64 x3) := box_cell HX1.out 3 _ rfl
  have e4 : w1.cell? ⟨W.heap.size, 4, none⟩ = some (.int .i64 x4) := box_cell HX1.out 4 _ rfl
  have HM1 := Lib.hid (HMk.out w1 B1.out)
  clear b1 HX HB
  go_wp2_with fail
  refine HM1.out.mono ?_
  rintro _ w2 ⟨a, k, rfl, ha, b2⟩
  have B2 := Lib.hid (below_step B1.out b2); have A2 := Lib.hid ha; have L2 := Lib.hid (box_below L1.out b2)
  clear ha b2 B1 L1 HL HX1 e0 e1 e2 e3 e4 HMk HM1 HSn
  go_upto_region 3 with (fail)
  have T3 := Lib.hid (heap_alloc_new w2 (tlObj c c.blades a k))
  have hb3 := below_new w2 (tlObj c c.blades a k)
  have B3 := Lib.hid (below_step B2.out hb3); have A3 := Lib.hid (A2.out.below hb3); have L3 := Lib.hid (box_below L2.out hb3)
  generalize w2.alloc (tlObj c c.blades a k) = w3 at *
  clear hb3 B2 A2 L2
  generalize w2.heap.size = b1 at *
  obtain ⟨t0, t1, t2, t3, t4⟩ := tl_cells T3.out
  go_upto_region 4 with (fail)
  have HcaA := Lib.hid (show ∀ x, a = some x → x.block < w3.heap.size from fun x hx => by
    obtain ⟨b, off, e, hb, _⟩ := A3.out.at (by have := (validT_iff.1 HV.out).2.2.2.2.1; omega)
    rw [hx] at e; injection e with e; subst e; exact hb)
  have hl1 : b1 < w3.heap.size := lt_of_block T3.out
  have hl2 : W.heap.size + 1 < w3.heap.size := lt_of_block L3.out
  have D4 := Lib.hid (heap_alloc_new w3 (tlObj c c.blades a k))
  have hb4 := below_new w3 (tlObj c c.blades a k)
  have B4 := Lib.hid (below_step B3.out hb4); have A4 := Lib.hid (A3.out.below hb4); have L4 := Lib.hid (box_below L3.out hb4); have T4 := Lib.hid (box_below T3.out hb4)
  generalize w3.alloc (tlObj c c.blades a k) = w4 at *
  clear hb4 B3 A3 L3 T3 t0 t1 t2 t3 t4
  obtain ⟨hn1, hn4⟩ := (validT_iff.1 HV.out).2.2.2.2.1
  have HcaB := Lib.hid HcaA.out
  generalize hb2 : w3.heap.size = b2 at *
  clear hb2 HcaA
  have hb5 := below_new w4 (.cells #[] 60)
  have B5 := Lib.hid (below_step B4.out hb5); have A5 := Lib.hid (A4.out.below hb5); have L5 := Lib.hid (box_below L4.out hb5); have T5 := Lib.hid (box_below T4.out hb5); have D5 := Lib.hid (box_below D4.out hb5)
  have HOwn := Lib.hid (World.ownsRow_lit (base := w4.heap.size) (size := 2) (e := 60) w4 #[] 0 (Nat.le_refl _) (by decide) rfl)
  have t0 : (w4.alloc (.cells #[] 60)).cell? ⟨b1, 0, none⟩ = some (.slice a c.chs.length k) := (tl_cells T5.out).1
  obtain ⟨n0, hi0, hz0, hz1, hz2⟩ := info_parts info_chamber
  have hl3 : b2 < w4.heap.size := lt_of_block D4.out
  obtain ⟨ca, off, hab, hca, hcc⟩ := A5.out.at (by omega)
  subst hab
  have HNW := Lib.hid (show ∀ j u, (c.chs.flatMap chamCells)[j]? = some u → (w4.alloc (.cells #[] 60)).cell? ((⟨ca, off, none⟩ : Addr).add j) = some u from fun j u hu => by
    have hj : j < c.chs.length * 2 := by
      have := (List.getElem?_eq_some_iff.1 hu).1
      rw [flat_ch_len] at this; exact this
    have hi : j / 2 < c.chs.length := by omega
    have h4 : j % 2 < 2 := Nat.mod_lt _ (by omega)
    have hjj : j / 2 * 2 + j % 2 = j := by omega
    have := flat_at chamCells 2 cham_len c.chs (j / 2) (j % 2) hi h4
    rw [hjj] at this
    have h5 := hcc (j / 2) hi (j % 2) u (this.symm.trans hu)
    rw [show off + j / 2 * 2 + j % 2 = off + j by omega] at h5
    cases j <;> simpa [Addr.add] using h5)
  have HLn := Lib.hid (flat_ch_len c.chs)
  have HOne := Lib.hid (show ∀ u ∈ c.chs.flatMap chamCells, u.oneCell' = true from fun u hu => by
    obtain ⟨x, _, hx⟩ := List.mem_flatMap.1 hu
    simp only [chamCells, List.mem_cons, List.not_mem_nil, or_false] at hx
    rcases hx with rfl | rfl <;> rfl)
  have hsz5 : w4.heap.size ≤ (w4.alloc (.cells #[] 60)).heap.size := by simp
  clear hcc hca hb5
  go_wp2_with (at_builtin; refine wpList_append_lies _ rfl _ _ 22 rfl w4.heap.size 60 n0 _ 2 16 Try.underlying22 hi0 hz0 hz1 hz2 rfl (by decide) _ 0 _ rfl HOwn.out ⟨ca, off, none⟩ c.chs.length k (c.chs.flatMap chamCells) rfl HLn.out HNW.out HOne.out (by omega) ?c3 ?c4 hsz5 _ rfl ?_)
  case c3 => unfold maxLen; omega
  case c4 => omega
  intro D cap w6 hown hgrow hat hlt
  replace hown : w6.ownsRow w4.heap.size 60 2 (.slice (some ⟨D, 0, none⟩) c.chs.length cap) c.chs.length (c.chs.flatMap chamCells) := by simpa using hown
  have hcaB := HcaB.out _ rfl
  try simp only at hcaB
  have hDg : w4.heap.size ≤ D := (hown.lt D rfl).1
  have hcap : c.chs.length ≤ cap ∧ cap ≤ maxLen := by
    obtain ⟨a', c', e, h1, h2, -⟩ := own_slice hown
    injection e with e1 e2 e3; subst e3; exact ⟨h1, h2⟩
  have hB6 : Below w4.heap.size w4 w6 := (below_new w4 (.cells #[] 60)).grown hgrow (by simp) (fun j e => by simp [Value.ownBlock] at e; omega)
  have D6 := Lib.hid (box_below D4.out hB6)
  have q0 : w6.cell? ⟨b2, 0, none⟩ = some (.slice (some ⟨ca, off, none⟩) c.chs.length k) := (tl_cells D6.out).1
  have f0 : w6.frozen? ⟨b2, 0, none⟩ = false := box_fz D6.out 0
  have lt6 : b2 < w6.heap.size := lt_of_block D6.out
  have S6 := Lib.hid (show StAt W c (some ⟨ca, off, none⟩) k b1 b2 D cap l0 l1 l2 l3 (addTo [l0, l1, l2, l3] c.chs 0) (w6.setCell ⟨b2, 0, none⟩ (.slice (some ⟨D, 0, none⟩) c.chs.length cap)) from by
    have hc : Ch (fun i => i = b2) w6 (w6.setCell ⟨b2, 0, none⟩ (.slice (some ⟨D, 0, none⟩) c.chs.length cap)) := Ch.grown (grown_set (w := w6) b2 0 _) (fun i e => by injection e with e; exact e.symm)
    refine ⟨(hc.block b1 (lt_of_block (box_below T4.out hB6)) (by omega)).trans (box_below T4.out hB6), block_set (o := 0) D6.out _, (hc.block (W.heap.size + 1) (lt_of_block (box_below L4.out hB6)) (by omega)).trans (box_below L4.out hB6), (A4.out.below hB6).ch hc (fun x hx => by injection hx with hx; subst hx; simp only; omega), ?_, (below_step B4.out hB6).grown (grown_set (w := w6) b2 0 _) (below_step B4.out hB6).size (fun i e => by injection e with e; have := B4.out.size; omega)⟩
    rw [addTo_zero]
    have hr : RowX w6 D c.chs := RowX.of_own hown
    obtain ⟨cur, k1, k2⟩ := hr
    exact ⟨cur, (hc.block D (lt_of_block k1) (by omega)).trans k1, k2⟩)
  clear hown hgrow hat hlt HNW HLn HOne HOwn hsz5 B5 A5 L5 T5 D5 t0 hi0 hz0 hz1 hz2
  go_wp2_with fail
  clear q0 f0 lt6
  generalize w6.setCell ⟨b2, 0, none⟩ (.slice (some ⟨D, 0, none⟩) c.chs.length cap) = w7 at *
  clear hB6 D6
  go_loopw [10] (fun iv wr => ∃ i : Nat, i ≤ c.chs.length ∧ iv = .int .i64 (i : Int) ∧ Hid (StAt W c (some ⟨ca, off, none⟩) k b1 b2 D cap l0 l1 l2 l3 (addTo [l0, l1, l2, l3] c.chs i) wr)) (fun iv _ => c.chs.length - (intOf iv).toNat)
  case atStart => exact ⟨0, Nat.zero_le _, rfl, S6⟩
  case round =>
    clear S6 T4 D4 L4 A4 B4
    obtain ⟨i, hi, rfl, HS⟩ := hrel
    obtain ⟨x0, y1, y2, y3, y4⟩ := dl_cells HS.out.dbox
    have i0 : (0 : Int) ≤ (i : Int) := by omega
    by_cases hlt : i < c.chs.length
    · have i1 : (i : Int) < (c.chs.length : Int) := by omega
      have i4 : (i : Int) < 4 := by omega
      obtain ⟨-, r1, r2, r3⟩ := HS.out.row.cell (i := i) (by rw [addTo_len]; exact hlt)
      have hsv := addTo_at [l0, l1, l2, l3] c.chs i i hlt
      rw [if_neg (Nat.lt_irrefl i)] at hsv
      rw [hsv] at r1
      have hs0 := (validT_iff.1 HV.out).2.2.2.2.2 _ (chAt_mem (c := c) hlt)
      have hs1 := H40.out _ (chAt_mem (c := c) hlt)
      have HSt := Lib.hid (show addTo [l0, l1, l2, l3] c.chs (i + 1) = (addTo [l0, l1, l2, l3] c.chs i).set i ⟨(c.chs.getD i ⟨0, 0⟩).t, (c.chs.getD i ⟨0, 0⟩).s + pickZ ([l0, l1, l2, l3].getD i 0) 50⟩ from addTo_succ _ _ hlt)
      have HSe := Lib.hid (HS.out.set (by omega) (by omega) (by omega) (by simp only; omega) (i := i) (by rw [addTo_len]; exact hlt) ((c.chs.getD i ⟨0, 0⟩).s + pickZ ([l0, l1, l2, l3].getD i 0) 50))
      rw [hsv, ← HSt.out] at HSe
      have e4 : wr.cell? ⟨W.heap.size + 1, i, none⟩ = some (.int .i64 ([l0, l1, l2, l3].getD i 0)) := by
        obtain h | h | h | h : i = 0 ∨ i = 1 ∨ i = 2 ∨ i = 3 := by omega
        · rw [h]; exact box_cell HS.out.lng 0 _ rfl
        · rw [h]; exact box_cell HS.out.lng 1 _ rfl
        · rw [h]; exact box_cell HS.out.lng 2 _ rfl
        · rw [h]; exact box_cell HS.out.lng 3 _ rfl
      have hpz := pickZ_bd (c := [l0, l1, l2, l3].getD i 0) (n := 50) (by omega)
      have HPi := Lib.hid (HPk.out i (by omega))
      generalize (c.chs.getD i ⟨0, 0⟩).s = sv at *
      generalize [l0, l1, l2, l3].getD i 0 = lv at *
      generalize pickZ lv 50 = pz at *
      have d1 : IntKind.i64.wrap (sv + pz) = sv + pz := IntWalk.i64_in _ (by omega)
      have d2 : IntKind.i64.wrap ((i : Int) + 1) = (i : Int) + 1 := IntWalk.i64_in _ (by omega)
      clear hsv HSt
      go_upto_region 8 with (fail)
      go_still_tail 16, (by kernel_rfl)
      repeat still_step
      still_call (HPi.out _)
      repeat still_step
      refine wpStill_nil ?_
      change wpList _ _ _ _ _ (World.drew _)
      go_upto_region 7 with (fail)
      have S8 := Lib.hid (HSe.out.below (Below.refl _ _).drew)
      generalize (wr.setCell ⟨D, i * 2 + 1, none⟩ (.int .i64 (sv + pz))).drew = w8 at *
      clear HSe HS x0 y1 y2 y3 y4 r1 r2 r3 e4
      go_wp2_with fail
      go_roundw
      case rel => exact ⟨i + 1, by omega, by go_num, S8⟩
      case measure => simp [intOf]; omega
    · have i1 : ¬ (i : Int) < (c.chs.length : Int) := by omega
      obtain rfl : i = c.chs.length := by omega
      obtain ⟨dT, hdT⟩ : ∃ d : Tool, d = ⟨addTo [l0, l1, l2, l3] c.chs c.chs.length, c.pick, c.place, c.travel, c.blades⟩ := ⟨_, rfl⟩
      have hdl : dT.chs.length = c.chs.length := by rw [hdT]; exact addTo_len _ _ _
      have hdch : addTo [l0, l1, l2, l3] c.chs c.chs.length = dT.chs := by rw [hdT]
      have hLo : Longer c dT := longer_of (l := [l0, l1, l2, l3]) (by rw [hdT]) (by rw [hdT]) (by rw [hdT]) (by rw [hdT]) hdch.symm
      have hdv : validT dT = true := by rw [hdT]; exact addTo_valid HV.out H40.out _
      have HDB := Lib.hid (fun (w : World) (h : ChA w (some ⟨D, 0, none⟩) cap dT.chs) => (show Calls Try.prog 22 #[.agg #[.slice (some ⟨D, 0, none⟩) c.chs.length cap, .int .i64 c.pick, .int .i64 c.place, .int .i64 c.travel, .int .i64 c.blades]] w (BestP dT w) from by
        have := HBe.out dT w (some ⟨D, 0, none⟩) cap h
        unfold tlV at this
        rw [hdl, hLo.pick, hLo.place, hLo.travel, hLo.blades] at this
        exact this))
      rw [hdch] at HS
      have HBc := Lib.hid (HBe.out c wr (some ⟨ca, off, none⟩) k HS.out.ch)
      unfold BestP at HBc HDB
      have HLo := Lib.hid hLo
      have HDv := Lib.hid hdv
      have HRa := Lib.hid (fun (w : World) (h : RowX w D dT.chs) => h.arg (cap := cap) (by rw [hdl]; exact hcap.1) hcap.2)
      obtain ⟨t0, t1, t2, t3, t4⟩ := tl_cells HS.out.tool
      clear hdT hdl hdch hLo hdv HBe
      go_wp2_with fail
      refine HBc.out.mono ?_
      rintro _ w8 ⟨f1, s1, oa, sa, qa, oc, sc, qc, rfl, -, -, -, b8, hno, hyes⟩
      have hbn := below_step b8 (below_new w8 (schObj s1 oa sa qa oc sc qc))
      have S9 := Lib.hid (HS.out.below hbn)
      have P9 := Lib.hid (heap_alloc_new w8 (schObj s1 oa sa qa oc sc qc))
      clear b8 hbn HS HBc t0 t1 t2 t3 t4 x0 y1 y2 y3 y4
      have HNo := Lib.hid hno; have HYes := Lib.hid hyes
      clear hno hyes
      obtain ⟨er1, her1⟩ : ∃ z : Int, z = (if f1 = true then 0 else 130) := ⟨_, rfl⟩
      rw [← her1]
      have HEr1 := Lib.hid her1
      clear her1
      go_upto_region 10 with (fail)
      generalize w8.alloc (schObj s1 oa sa qa oc sc qc) = w9 at *
      generalize w8.heap.size = b3 at *
      obtain ⟨t0, t1, t2, t3, t4⟩ := dl_cells S9.out.dbox
      have HBd := Lib.hid (HDB.out w9 (HRa.out w9 S9.out.row))
      go_wp2_with fail
      refine HBd.out.mono ?_
      rintro _ w10 ⟨f2, s2, oa2, sa2, qa2, oc2, sc2, qc2, rfl, -, -, -, b10, hno2, hyes2⟩
      have hbn := below_step b10 (below_new w10 (schObj s2 oa2 sa2 qa2 oc2 sc2 qc2))
      have B11 := Lib.hid (below_step S9.out.bel hbn)
      have P11 := Lib.hid (box_below P9.out hbn)
      have Q11 := Lib.hid (heap_alloc_new w10 (schObj s2 oa2 sa2 qa2 oc2 sc2 qc2))
      clear b10 hbn t0 t1 t2 t3 t4 HBd S9 P9
      obtain ⟨er2, her2⟩ : ∃ z : Int, z = (if f2 = true then 0 else 130) := ⟨_, rfl⟩
      rw [← her2]
      have hcase : er1 = 130 ∨ (er1 = 0 ∧ er2 = 0 ∧ s2.p ≤ s1.p) := by
        cases f1 with
        | false => exact .inl HEr1.out
        | true =>
          obtain ⟨p, o, hb1, hs1⟩ := HYes.out rfl
          obtain ⟨hm, hf⟩ := HLo.out.best HV.out HDv.out hb1
          obtain ⟨rfl, q', o', hb2', hs2, hle⟩ := best_or hno2 hyes2 hm hb1.bd hf
          refine .inr ⟨HEr1.out, her2, ?_⟩
          rw [hs1, hs2]; exact hle
      clear hno2 hyes2 her2 HNo HYes HEr1
      go_upto_region 11 with (fail)
      generalize w10.alloc (schObj s2 oa2 sa2 qa2 oc2 sc2 qc2) = w11 at *
      generalize w10.heap.size = b4 at *
      obtain ⟨p0, -, -, -⟩ := schC_of P11.out
      obtain ⟨q0, -, -, -⟩ := schC_of Q11.out
      rcases hcase with rfl | ⟨rfl, rfl, hle⟩
      · go_wp2_with fail
        go_ret
        exact ⟨rfl, B11.out⟩
      · generalize s2.p = pp2 at *
        generalize s1.p = pp1 at *
        go_wp2_with fail
        go_ret
        exact ⟨rfl, B11.out⟩
end Go.Proofs.Yticeabbfmjgdbaa
