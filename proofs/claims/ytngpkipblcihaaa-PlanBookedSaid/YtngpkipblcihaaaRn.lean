/-
  What Run keeps in memory; the contract of its closure.
-/
import Derived.Test.YtngpkipblcihaaaSm
namespace Go.Proofs.Ytngpkipblcihaaa
open Go.RowKit

theorem vs_cells {w : World} {b o : Nat} {x : Pl.Visit} (h : ∀ (j : Nat) (v : Value), (visitCells x)[j]? = some v → w.cell? ⟨b, o + j, none⟩ = some v) :
    w.cell? ⟨b, o, none⟩ = some (.int .i64 x.step) ∧ w.cell? ⟨b, o + 1, none⟩ = some (.int .i64 x.tool) ∧ w.cell? ⟨b, o + 2, none⟩ = some (.int .i64 x.start) ∧ w.cell? ⟨b, o + 3, none⟩ = some (.int .i64 x.fin) := ⟨h 0 _ rfl, h 1 _ rfl, h 2 _ rfl, h 3 _ rfl⟩
/-- Times within a million. -/
def VBd (V : List Pl.Visit) : Prop := ∀ x ∈ V, (0 ≤ x.start ∧ x.start ≤ 1000000) ∧ 0 ≤ x.fin ∧ x.fin ≤ 1010000
abbrev winObj (x : Pl.Win) : Obj := .cells #[.int .i64 x.f, .int .i64 x.t, .int .i64 x.lim] 47
set_option maxRecDepth 100000 in
set_option maxHeartbeats 2000000 in
theorem Run1_any (x : Pl.Win) (g : Nat) (a : Option Addr) (c : Nat) (V : List Pl.Visit) (w : World) (hg : w.cell? ⟨g, 0, none⟩ = some (.slice a V.length c)) (hV : VsA w a c V) (hb : VBd V) (h0 : 0 ≤ x.f) (h1 : x.f < x.t) (h2 : x.t < V.length) :
    Calls Try.prog 28 #[winV x, .pointer (some ⟨g, 0, none⟩)] w fun e w' => e = .returned (.bool (Pl.missed V x)) ∧ Below w.heap.size w w' := by
  obtain ⟨f, t, lim⟩ := x
  simp only at h0 h1 h2
  obtain ⟨n, rfl⟩ := Int.eq_ofNat_of_zero_le h0
  obtain ⟨m, rfl⟩ := Int.eq_ofNat_of_zero_le (show 0 ≤ t by omega)
  have hn : n < V.length := by omega
  have hm : m < V.length := by omega
  obtain ⟨b, off, rfl, hbb, hc⟩ := hV.at (by omega)
  obtain ⟨-, -, -, n3⟩ := vs_cells (hc n hn)
  obtain ⟨-, -, m2, -⟩ := vs_cells (hc m hm)
  have hl := hV.len
  unfold maxLen at hl
  have HE := Lib.hid (show Pl.missed V ⟨(n : Int), (m : Int), lim⟩ = decide (V[m].start - V[n].fin > lim) by unfold Pl.missed; rw [Pl.nth_lt hn, Pl.nth_lt hm])
  have b1 := hb _ (List.getElem_mem hn)
  have b2 := hb _ (List.getElem_mem hm)
  have e1 : IntKind.i64.wrap (V[m].start - V[n].fin) = V[m].start - V[n].fin := IntWalk.i64_in _ (by omega)
  rw [HE.out]
  clear hc hb b1 b2 hV HE h0 h1 h2
  have HG := Lib.hid (below_new w (winObj ⟨(n : Int), (m : Int), lim⟩))
  have i1 : (0 : Int) ≤ (n : Int) := by omega
  have i2 : (n : Int) < (V.length : Int) := by omega
  have i3 : (0 : Int) ≤ (m : Int) := by omega
  have i4 : (m : Int) < (V.length : Int) := by omega
  have i5 : ((n : Int)).toNat = n := by omega
  have i6 : ((m : Int)).toNat = m := by omega
  generalize V[m].start = s at *
  generalize V[n].fin = e at *
  clear hn hm
  generalize V.length = l at *
  have hw : w.heap[w.heap.size]? = none := by simp
  have N := Lib.hid (heap_alloc_new w (winObj ⟨(n : Int), (m : Int), lim⟩))
  have C := Lib.hid (show (w.alloc (winObj ⟨(n : Int), (m : Int), lim⟩)).cell? ⟨g, 0, none⟩ = some (.slice (some ⟨b, off, none⟩) l c) ∧ (w.alloc (winObj ⟨(n : Int), (m : Int), lim⟩)).cell? ⟨b, off + n * 4 + 3, none⟩ = some (.int .i64 e) ∧ (w.alloc (winObj ⟨(n : Int), (m : Int), lim⟩)).cell? ⟨b, off + m * 4 + 2, none⟩ = some (.int .i64 s) from ⟨cell_below HG.out hg, cell_below HG.out n3, cell_below HG.out m2⟩)
  clear hg n3 m2 hw
  dsimp only [winObj] at N HG C
  go_enter Try.func28, Try.ntmps28
  go_wp2_with fail
  generalize w.alloc (.cells #[.int .i64 (n : Int), .int .i64 (m : Int), .int .i64 lim] 47) = W at *
  obtain ⟨c1, c2, c3⟩ := C.out
  have k0 := box_cell N.out 0 (.int .i64 (n : Int)) rfl
  have k1 := box_cell N.out 1 (.int .i64 (m : Int)) rfl
  have k2 := box_cell N.out 2 (.int .i64 lim) rfl
  clear C N
  go_quiet (fail)
  go_wp2_with fail
  go_ret
  exact ⟨rfl, below_drewN HG.out _⟩
end Go.Proofs.Ytngpkipblcihaaa
