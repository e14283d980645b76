/-
  What the walks of layer 3's statements share: contracts with their answers laid out.
-/
import Derived.Test.YtkkhmgcjaehnkaaGreatDoorLibs
import Derived.Test.YtkkhmgcjaehnkaaGreatDoorRnd
namespace Go.Proofs.YtkkhmgcjaehnkaaGreatDoor
open Go.RowKit Go.Shelf

theorem is_any (n d : Int) (w : World) : Calls Tryz.prog 7 #[.int .i64 n, .int .i64 d] w fun e w' => e = .returned (ratV n d) ∧ Below w.heap.size w w' := by
  go_enter Tryz.func7, Tryz.ntmps7
  go_wp2
  refine bodyPost_ret (v := ratV n d) (by simp [results, Tryz.results7, go_sem]) rfl ⟨rfl, ?_⟩
  repeat (first | exact below_new _ _ | refine Below.setCell ?_ (by simp) _)

theorem Make_at (n d p q : Int) (a : Addr) (h : Ra.red n d = some (p, q)) (fn : Fits n) (fd : Fits d) (w : World) (ht : Tab a w) :
    Calls Tryz.prog 5 #[.int .i64 n, .int .i64 d] w fun e w' => e = .returned (.tuple #[ratV p q, .int .i64 0]) ∧ Below w.heap.size w w' := by
  have := Make_any n d w a ht.err fn fd
  rw [h] at this; exact this
theorem Add_at (an ad bn bd p q : Int) (a : Addr) (h : addR an ad bn bd = some (p, q)) (fa : Fits an ∧ Fits ad) (fb : Fits bn ∧ Fits bd) (w : World) (ht : Tab a w) :
    Calls Tryz.prog 8 #[ratV an ad, ratV bn bd] w fun e w' => e = .returned (.tuple #[ratV p q, .int .i64 0]) ∧ Below w.heap.size w w' := by
  have := Add_any an ad bn bd w a ht.err fa fb
  rw [h] at this; exact this
theorem Round_at (n q d x y : Int) (a : Addr) (h : roundR n q d = some (x, y)) (fa : Fits n ∧ Fits q) (w : World) (ht : Tab a w) :
    Calls Tryz.prog 16 #[ratV n q, .int .i64 d] w fun e w' => e = .returned (.tuple #[ratV x y, .int .i64 0]) ∧ Below w.heap.size w w' := by
  have := Round_any n q d w a ht.err fa
  rw [h] at this; exact this
theorem Div_at (an ad bn bd : Int) (a : Addr) (h : divR an ad bn bd = none) (fa : Fits an ∧ Fits ad) (fb : Fits bn ∧ Fits bd) (w : World) (ht : Tab a w) :
    Calls Tryz.prog 14 #[ratV an ad, ratV bn bd] w fun e w' => e = .returned (.tuple #[ratV 0 0, .int .i64 30]) ∧ Below w.heap.size w w' := by
  have := Div_any an ad bn bd w a ht.err fa fb
  rw [h] at this; exact this
/-- What Make answers, in two forms. -/
theorem Make_some {n d p q : Int} {a : Addr} (h : Ra.red n d = some (p, q)) (fn : Fits n) (fd : Fits d) : ∀ w, Tab a w →
    Calls Tryz.prog 5 #[.int .i64 n, .int .i64 d] w fun e w' => e = .returned (.tuple #[ratV p q, .int .i64 0]) ∧ Below w.heap.size w w' := fun w ht => Make_at n d p q a h fn fd w ht
theorem Make_none {n d : Int} {a : Addr} (h : Ra.red n d = none) (fn : Fits n) (fd : Fits d) : ∀ w, Tab a w →
    Calls Tryz.prog 5 #[.int .i64 n, .int .i64 d] w fun e w' => e = .returned (.tuple #[ratV 0 0, .int .i64 30]) ∧ Below w.heap.size w w' := fun w ht => by
  have := Make_any n d w a ht.err fn fd
  rw [h] at this; exact this
theorem Compare_at {an ad bn bd : Int} (ha : Ra.Ok an ad) (hb : Ra.Ok bn bd) {c : Int} (hc : cmpR an ad bn bd = c) : ∀ w,
    Calls Tryz.prog 20 #[ratV an ad, ratV bn bd] w fun e w' => e = .returned (.int .i64 c) ∧ Below w.heap.size w w' := fun w => by
  have := Compare_any an ad bn bd w ⟨⟨by have := ha.2.2.1; omega, by have := ha.2.2.2.1; omega⟩, ⟨by have := ha.1; omega, by have := ha.2.1; omega⟩⟩ ⟨⟨by have := hb.2.2.1; omega, by have := hb.2.2.2.1; omega⟩, ⟨by have := hb.1; omega, by have := hb.2.1; omega⟩⟩
  rw [hc] at this; exact this
theorem ok_fits {n d : Int} (h : Ra.Ok n d) : Fits n ∧ Fits d := by
  obtain ⟨h1, h2, h3, h4, -⟩ := h
  exact ⟨⟨by omega, by omega⟩, ⟨by omega, by omega⟩⟩

theorem two_cells (w' : World) (A : Nat) (n d : Int) (w w2 : World) (h : w'.cell? ⟨A, 0, none⟩ = some (.int .i64 n) ∧ w'.cell? ⟨A, 1, none⟩ = some (.int .i64 d) ∧ Below w.heap.size w w') (hb : Below w'.heap.size w' w2) :
    w2.cell? ⟨A, 0, none⟩ = some (.int .i64 n) ∧ w2.cell? ⟨A, 1, none⟩ = some (.int .i64 d) ∧ Below w.heap.size w w2 :=
  ⟨cell_below hb h.1, cell_below hb h.2.1, below_step h.2.2 hb⟩
end Go.Proofs.YtkkhmgcjaehnkaaGreatDoor
