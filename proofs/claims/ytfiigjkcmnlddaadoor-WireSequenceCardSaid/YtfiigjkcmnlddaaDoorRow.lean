/-
  A row of bytes of the call's own: what its cells hold, what a store makes of them, and the string of its bytes.
-/
import Derived.Test.YtfiigjkcmnlddaaDoorSmall
import Derived.Test.YtfiigjkcmnlddaaDoorBits
import Derived.LoopTactic
import Derived.RegionTactic
import Derived.ChangeAlike
import Derived.Laws.IdiomStrings
import Derived.Laws.MakeOwn
import Derived.Laws.OwnMore
import Derived.Deep.Draws
import Derived.WalkSmall
namespace Go.Proofs.YtfiigjkcmnlddaaDoor
open Go.RowKit

/-- Block B holds the bytes L, and may be written. -/
def RowIs (W : World) (B : Nat) (L : List UInt8) : Prop :=
  B < W.heap.size ∧ (∀ i (h : i < L.length), W.cell? ⟨B, i, none⟩ = some (.int .u8 ((L[i].toNat : Nat) : Int))) ∧ ∀ i, i < L.length → W.frozen? ⟨B, i, none⟩ = false

theorem RowIs.set {W : World} {B : Nat} {L : List UInt8} (h : RowIs W B L) {k : Nat} (hk : k < L.length) (v : UInt8) : RowIs (W.setCell ⟨B, k, none⟩ (.int .u8 ((v.toNat : Nat) : Int))) B (L.set k v) := by
  refine ⟨by simpa using h.1, ?_, ?_⟩
  · intro i hi
    have hi' : i < L.length := by simpa using hi
    by_cases e : k = i
    · subst e
      rw [World.cell?_setCell_same' _ _ _ (by rw [h.2.1 k hk]; rfl)]
      simp
    · have hn := h.2.1 i hi'
      rw [List.getElem_set_ne e]
      rw [World.cell?_setCell_other]
      · exact hn
      · intro c; cases c; exact e rfl
  · intro i hi
    have hi' : i < L.length := by simpa using hi
    rw [World.frozen?_setCell]
    exact h.2.2 i hi'
theorem RowIs.drewN {W : World} {B : Nat} {L : List UInt8} (h : RowIs W B L) (m : Nat) : RowIs (W.drewN m) B L := ⟨by simpa using h.1, fun i hi => by simpa using h.2.1 i hi, fun i hi => by simpa using h.2.2 i hi⟩
theorem RowIs.drew {W : World} {B : Nat} {L : List UInt8} (h : RowIs W B L) : RowIs W.drew B L := h

/-- 'string(x)' of a row. -/
theorem RowIs.string {W : World} {B : Nat} {L : List UInt8} (h : RowIs W B L) (cap : Nat) :
    (convert 38 9 (.slice (some ⟨B, 0, none⟩) L.length cap)).run Tryd.prog W = .ok (.string ⟨L.toArray⟩) W :=
  run_convert_bytes_back W 38 9 5 ⟨B, 0, none⟩ cap L Tryd.underlying38 Tryd.underlying5 Tryd.underlying9 (fun j hj => by
    have := h.2.1 j hj
    cases j <;> simpa [Addr.add] using this)

theorem RowIs.made (w : World) (n : Nat) : RowIs (w.alloc (.cells (madeCells (Value.int .u8 0).cells n) 5)) w.heap.size (List.replicate n 0) := by
  refine ⟨by simp, ?_, fun i _ => by simp⟩
  intro i hi
  have hn : i < n := by simpa using hi
  rw [World.cell?_alloc_mark w _ _ (0, 0) i, ← Array.getElem?_toList, show (Value.int .u8 0).cells = #[Value.int .u8 0] from rfl, toList_madeCells_one]
  simp [hn]

/-- 'make([]byte, n)'. -/
theorem make_bytes (W : World) (n : Nat) (hn : n ≤ 65536) : (Instr.makeSlice 38 (.int .i64 (n : Int)) (.int .i64 (n : Int))).run Tryd.prog W = .ok (.slice (some ⟨W.heap.size, 0, none⟩) n n) (W.alloc (.cells (madeCells (Value.int .u8 0).cells n) 5)) := by
  obtain ⟨i0, hi, hz0, hz1, hz2⟩ := info_parts info_u8'
  have h := run_make (P := Tryd.prog) W 38 5 i0 (.int .u8 0) Tryd.underlying38 hi hz0 .i64 .i64 (n : Int) (n : Int) (by omega) (by omega) (by rw [hz2]; omega) (by omega)
  rw [hz1] at h
  simpa using h
where
  info_u8' : (Tryd.prog.info? 5).map (fun i => (i.zero, i.size, i.bytes)) = some (some (.int .u8 0), 1, 1) := by kernel_rfl

/-- 'min' of four integers. -/
theorem run_min4 (w : World) (ts : Array TypeId) (t : TypeId) (x y z u : Int) :
    (Builtin.min_ ts t #[.int .i64 x, .int .i64 y, .int .i64 z, .int .i64 u]).run Tryd.prog w = .ok (.int .i64 (min (min (min x y) z) u)) w := by
  have e : ∀ p q : Int, (if q < p then q else p) = min p q := fun p q => by split <;> omega
  simp [Builtin.min_, Builtin.min2, e]
end Go.Proofs.YtfiigjkcmnlddaaDoor
