/-
  The contract of slices.Reverse at forks.
-/
import Derived.Test.YtbaggjhjkignkaaDoorFork
import Derived.BigRegion
namespace Go.Proofs.YtbaggjhjkignkaaDoor
open Go.RowKit Tree

/-- Block g holds the forks f 0 to f (n - 1). -/
def FkFn (w : World) (g n : Nat) (f : Nat → Fk) : Prop := ∃ (cur : Array Value) (t : TypeId), w.heap[g]? = some (.cells cur t (0, 0)) ∧
  ∀ p, p < n → cur[p * 4]? = some (.int .i64 (f p).first) ∧ cur[p * 4 + 1]? = some (.int .i64 (f p).half) ∧ cur[p * 4 + 2]? = some (.int .i64 (f p).fin) ∧ cur[p * 4 + 3]? = some (.bool (f p).left)
/-- The first k and the last k exchanged. -/
def swapK (f : Nat → Fk) (n k p : Nat) : Fk := if p < k ∨ n - k ≤ p then f (n - 1 - p) else f p

theorem grow_set (w : World) (g i : Nat) (v : Value) : w.grownBy (w.setCell ⟨g, i, none⟩ v) (some g) :=
  ⟨rfl, rfl, rfl, by simp [World.setCell], fun k _ hk => heap_setCell_other w ⟨g, i, none⟩ k v (fun e => hk (by simp [e]))⟩
theorem grow_trans {a b c : World} {row : Option Nat} (h : a.grownBy b row) (k : b.grownBy c row) : a.grownBy c row :=
  ⟨k.os.trans h.os, k.tape.trans h.tape, k.output.trans h.output, Nat.le_trans h.size k.size, fun j hj hne => (k.block j (Nat.lt_of_lt_of_le hj h.size) hne).trans (h.block j hj hne)⟩
/-- Four stores: a fork. -/
def putFk (w : World) (g x : Nat) (f : Fk) : World := (((w.setCell ⟨g, x, none⟩ (.int .i64 f.first)).setCell ⟨g, x + 1, none⟩ (.int .i64 f.half)).setCell ⟨g, x + 2, none⟩ (.int .i64 f.fin)).setCell ⟨g, x + 3, none⟩ (.bool f.left)
def putC (cur : Array Value) (x : Nat) (f : Fk) : Array Value := (((cur.setIfInBounds x (.int .i64 f.first)).setIfInBounds (x + 1) (.int .i64 f.half)).setIfInBounds (x + 2) (.int .i64 f.fin)).setIfInBounds (x + 3) (.bool f.left)
theorem putFk_row {w : World} {g x : Nat} {f : Fk} {cur : Array Value} {t : TypeId} (h : w.heap[g]? = some (.cells cur t (0, 0))) : (putFk w g x f).heap[g]? = some (.cells (putC cur x f) t (0, 0)) := by
  unfold putFk putC
  exact heap_setCell_same _ g _ _ t _ (heap_setCell_same _ g _ _ t _ (heap_setCell_same _ g _ _ t _ (heap_setCell_same _ g _ _ t _ h)))
theorem putFk_grow (w : World) (g x : Nat) (f : Fk) : w.grownBy (putFk w g x f) (some g) :=
  grow_trans (grow_trans (grow_trans (grow_set _ _ _ _) (grow_set _ _ _ _)) (grow_set _ _ _ _)) (grow_set _ _ _ _)
theorem putC_other (cur : Array Value) (x j : Nat) (f : Fk) (h : j < x ∨ x + 4 ≤ j) : (putC cur x f)[j]? = cur[j]? := by
  unfold putC
  rw [Array.getElem?_setIfInBounds_ne (by omega), Array.getElem?_setIfInBounds_ne (by omega), Array.getElem?_setIfInBounds_ne (by omega), Array.getElem?_setIfInBounds_ne (by omega)]
theorem putC_same (cur : Array Value) (x : Nat) (f : Fk) (h : x + 3 < cur.size) :
    (putC cur x f)[x]? = some (.int .i64 f.first) ∧ (putC cur x f)[x + 1]? = some (.int .i64 f.half) ∧ (putC cur x f)[x + 2]? = some (.int .i64 f.fin) ∧ (putC cur x f)[x + 3]? = some (.bool f.left) := by
  unfold putC
  refine ⟨?_, ?_, ?_, ?_⟩
  · rw [Array.getElem?_setIfInBounds_ne (by omega), Array.getElem?_setIfInBounds_ne (by omega), Array.getElem?_setIfInBounds_ne (by omega), Array.getElem?_setIfInBounds_self_of_lt (by omega)]
  · rw [Array.getElem?_setIfInBounds_ne (by omega), Array.getElem?_setIfInBounds_ne (by omega), Array.getElem?_setIfInBounds_self_of_lt (by simp; omega)]
  · rw [Array.getElem?_setIfInBounds_ne (by omega), Array.getElem?_setIfInBounds_self_of_lt (by simp; omega)]
  · rw [Array.getElem?_setIfInBounds_self_of_lt (by simp; omega)]
theorem putC_size (cur : Array Value) (x : Nat) (f : Fk) : (putC cur x f).size = cur.size := by unfold putC; simp
theorem swap_next {n k m : Nat} {f : Nat → Fk} {cur : Array Value} (hn : n = m + k + 1) (hkm : k < m)
    (h : ∀ p, p < n → cur[p * 4]? = some (.int .i64 (swapK f n k p).first) ∧ cur[p * 4 + 1]? = some (.int .i64 (swapK f n k p).half) ∧ cur[p * 4 + 2]? = some (.int .i64 (swapK f n k p).fin) ∧ cur[p * 4 + 3]? = some (.bool (swapK f n k p).left)) :
    ∀ p, p < n → (putC (putC cur (k * 4) (f m)) (m * 4) (f k))[p * 4]? = some (.int .i64 (swapK f n (k + 1) p).first) ∧ (putC (putC cur (k * 4) (f m)) (m * 4) (f k))[p * 4 + 1]? = some (.int .i64 (swapK f n (k + 1) p).half)
      ∧ (putC (putC cur (k * 4) (f m)) (m * 4) (f k))[p * 4 + 2]? = some (.int .i64 (swapK f n (k + 1) p).fin) ∧ (putC (putC cur (k * 4) (f m)) (m * 4) (f k))[p * 4 + 3]? = some (.bool (swapK f n (k + 1) p).left) := fun p hp => by
  have hsm : m * 4 + 3 < cur.size := (Array.getElem?_eq_some_iff.1 (h m (by omega)).2.2.2).1
  have hsk : k * 4 + 3 < cur.size := (Array.getElem?_eq_some_iff.1 (h k (by omega)).2.2.2).1
  by_cases e1 : p = m
  · subst e1
    have e : swapK f n (k + 1) p = f k := by unfold swapK; rw [if_pos (by omega)]; exact congrArg f (by omega)
    rw [e]
    exact putC_same _ _ _ (by rw [putC_size]; exact hsm)
  · rw [putC_other (putC cur (k * 4) (f m)) (m * 4) (p * 4) (f k) (by omega), putC_other (putC cur (k * 4) (f m)) (m * 4) (p * 4 + 1) (f k) (by omega), putC_other (putC cur (k * 4) (f m)) (m * 4) (p * 4 + 2) (f k) (by omega), putC_other (putC cur (k * 4) (f m)) (m * 4) (p * 4 + 3) (f k) (by omega)]
    by_cases e2 : p = k
    · subst e2
      have e : swapK f n (p + 1) p = f m := by unfold swapK; rw [if_pos (by omega)]; exact congrArg f (by omega)
      rw [e]
      exact putC_same _ _ _ hsk
    · rw [putC_other cur (k * 4) (p * 4) (f m) (by omega), putC_other cur (k * 4) (p * 4 + 1) (f m) (by omega), putC_other cur (k * 4) (p * 4 + 2) (f m) (by omega), putC_other cur (k * 4) (p * 4 + 3) (f m) (by omega)]
      have e : swapK f n (k + 1) p = swapK f n k p := by
        unfold swapK
        by_cases hc : p < k ∨ n - k ≤ p
        · rw [if_pos hc, if_pos (by omega)]
        · rw [if_neg hc, if_neg (by omega)]
      rw [e]
      exact h p hp

theorem fkFn_drew {w : World} {g n : Nat} {f : Nat → Fk} (h : FkFn w g n f) : FkFn w.drew g n f := h
theorem grow_drew {w w' : World} {row : Option Nat} (h : w.grownBy w' row) : w.grownBy w'.drew row := ⟨h.os, h.tape, h.output, h.size, h.block⟩
theorem swap_world {w wr : World} {g n a b : Nat} {fa fb : Fk} {F : Nat → Fk} {cur : Array Value} {t : TypeId} (hg : w.grownBy wr (some g)) (hr : wr.heap[g]? = some (.cells cur t (0, 0)))
    (h : ∀ p, p < n → (putC (putC cur a fb) b fa)[p * 4]? = some (.int .i64 (F p).first) ∧ (putC (putC cur a fb) b fa)[p * 4 + 1]? = some (.int .i64 (F p).half) ∧ (putC (putC cur a fb) b fa)[p * 4 + 2]? = some (.int .i64 (F p).fin) ∧ (putC (putC cur a fb) b fa)[p * 4 + 3]? = some (.bool (F p).left)) :
    FkFn (putFk (putFk wr g a fb) g b fa).drew g n F ∧ w.grownBy (putFk (putFk wr g a fb) g b fa).drew (some g) := by
  have h1 := putFk_row (x := b) (f := fa) (putFk_row (x := a) (f := fb) hr)
  have h2 := grow_trans hg (grow_trans (putFk_grow wr g a fb) (putFk_grow _ g b fa))
  generalize putFk (putFk wr g a fb) g b fa = X at *
  exact ⟨fkFn_drew ⟨_, t, h1, h⟩, grow_drew h2⟩

set_option maxRecDepth 100000 in
set_option maxHeartbeats 1000000 in
theorem reverseF_any (n : Nat) (f : Nat → Fk) (g cap : Nat) (w : World) (hF : FkFn w g n f) (hn : n < 1000000) :
    Calls Tryd.prog 39 #[.slice (some ⟨g, 0, none⟩) n cap] w fun e w' => e = .returned (.tuple #[]) ∧ FkFn w' g n (fun p => f (n - 1 - p)) ∧ w.grownBy w' (some g) := by
  have H0 := Lib.hid hF
  clear hF
  go_enter Tryd.func39, Tryd.ntmps39
  go_wp2_with fail
  go_loopw [2, 3] (fun i j wr => ∃ k : Nat, 2 * k ≤ n + 1 ∧ i = .int .i64 k ∧ j = .int .i64 ((n : Int) - 1 - (k : Int)) ∧ FkFn wr g n (swapK f n k) ∧ w.grownBy wr (some g)) (fun i _ _ => n - (intOf i).toNat)
  case atStart => exact ⟨0, by omega, rfl, by simp, by
    obtain ⟨cur, t, h1, h2⟩ := H0.out
    exact ⟨cur, t, h1, fun p hp => by unfold swapK; rw [if_neg (by omega)]; exact h2 p hp⟩, ⟨rfl, rfl, rfl, Nat.le_refl _, fun _ _ _ => rfl⟩⟩
  case round =>
    clear H0
    obtain ⟨k, hk, rfl, rfl, hF, hg⟩ := hrel
    by_cases hlt : (k : Int) < (n : Int) - 1 - (k : Int)
    · obtain ⟨cur, t, hrow, hcs⟩ := hF
      obtain ⟨m, hm⟩ : ∃ m : Nat, (n : Int) - 1 - (k : Int) = (m : Int) := ⟨n - 1 - k, by omega⟩
      have hmn : n = m + k + 1 := by omega
      have hkm : k < m := by omega
      rw [hm] at hlt ⊢
      clear hm
      obtain ⟨a0, a1, a2, a3⟩ := hcs k (by omega)
      obtain ⟨b0, b1, b2, b3⟩ := hcs m (by omega)
      have e1 : swapK f n k k = f k := by unfold swapK; rw [if_neg (by omega)]
      have e2 : swapK f n k m = f m := by unfold swapK; rw [if_neg (by omega)]
      rw [e1] at a0 a1 a2 a3
      rw [e2] at b0 b1 b2 b3
      have k1 : (k : Int) < (n : Int) := by omega
      have k2 : (m : Int) < (n : Int) := by omega
      have HC := Lib.hid hcs
      have HR := Lib.hid hrow
      have HG := Lib.hid hg
      have HMN := Lib.hid hmn
      clear e1 e2 hcs hg hmn
      rw [← cell_of_row wr g _ cur t _ hrow] at a0 a1 a2 a3 b0 b1 b2 b3
      have z0 : wr.frozen? ⟨g, k * 4, none⟩ = false := frozen_of_row wr g _ cur t hrow
      have z1 : wr.frozen? ⟨g, k * 4 + 1, none⟩ = false := frozen_of_row wr g _ cur t hrow
      have z2 : wr.frozen? ⟨g, k * 4 + 2, none⟩ = false := frozen_of_row wr g _ cur t hrow
      have z3 : wr.frozen? ⟨g, k * 4 + 3, none⟩ = false := frozen_of_row wr g _ cur t hrow
      have y0 : wr.frozen? ⟨g, m * 4, none⟩ = false := frozen_of_row wr g _ cur t hrow
      have y1 : wr.frozen? ⟨g, m * 4 + 1, none⟩ = false := frozen_of_row wr g _ cur t hrow
      have y2 : wr.frozen? ⟨g, m * 4 + 2, none⟩ = false := frozen_of_row wr g _ cur t hrow
      have y3 : wr.frozen? ⟨g, m * 4 + 3, none⟩ = false := frozen_of_row wr g _ cur t hrow
      clear hrow
      have hnx := swap_next HMN.out hkm HC.out
      have hnw := swap_world (F := swapK f n (k + 1)) HG.out HR.out hnx
      have hjm : (m : Int) - 1 = (n : Int) - 1 - ((k + 1 : Nat) : Int) := by have := HMN.out; omega
      have HJ := Lib.hid hjm
      unfold putFk at hnw
      have HNX := Lib.hid hnw
      clear hnx hnw hjm
      generalize f k = fa at *
      generalize f m = fb at *
      go_wp2_with fail
      go_region
      go_wp2_with fail
      go_roundw
      case rel =>
        exact ⟨k + 1, by have := HMN.out; omega, by go_num, by rw [HJ.out], HNX.out.1, HNX.out.2⟩
      case measure => have := HMN.out; simp [intOf]; omega
    · obtain ⟨cur, t, hrow, hcs⟩ := hF
      have hend : FkFn wr g n (fun p => f (n - 1 - p)) := ⟨cur, t, hrow, fun p hp => by
        have e : swapK f n k p = f (n - 1 - p) := by
          unfold swapK
          by_cases hc : p < k ∨ n - k ≤ p
          · rw [if_pos hc]
          · rw [if_neg hc]; exact congrArg f (by omega)
        show _ = some (Value.int IntKind.i64 ((f (n - 1 - p)).first : Nat)) ∧ _ = some (Value.int IntKind.i64 ((f (n - 1 - p)).half : Nat)) ∧ _ = some (Value.int IntKind.i64 ((f (n - 1 - p)).fin : Nat)) ∧ _ = some (Value.bool (f (n - 1 - p)).left)
        rw [← e]; exact hcs p hp⟩
      have hld : decide ((k : Int) < (n : Int) - 1 - (k : Int)) = false := by simp; omega
      have HE := Lib.hid (And.intro hend hg)
      clear hcs hend hrow hg
      go_wp2_with fail
      go_end0
      exact ⟨rfl, HE.out.1, HE.out.2⟩
end Go.Proofs.YtbaggjhjkignkaaDoor

