/-
  The contract of wire.PutInt, for every integer.
-/
import Derived.Test.YtnmjcjkjdbkpnaaDoorWaPut
namespace Go.Proofs.YtnmjcjkjdbkpnaaDoor.Wa
open Go.RowKit Go.Shelf

attribute [local go_sem] Oper.semAt_some

theorem info_u8 : (Tryd.prog.info? 5).map (fun i => (i.zero, i.size, i.bytes)) = some (some (.int .u8 0), 1, 1) := by kernel_rfl

def bytesV (l : List UInt8) : List Value := l.map fun x => Value.int .u8 ((x.toNat : Nat) : Int)
/-- What PutInt answers. -/
def PutEnd (n : Int) (w : World) (e : Ending) (w' : World) : Prop :=
  e = .returned (.tuple #[bstr (Enc.putBytes n), .int .i64 (Enc.putErr n)]) ∧ Below w.heap.size w w'

theorem row_string {W : World} {n₀ : Nat} {v : Value} {l : List UInt8} (h : W.ownsRow n₀ 5 1 v l.length (bytesV l)) (hl : 0 < l.length) :
    ∃ g cap, v = .slice (some ⟨g, 0, none⟩) l.length cap ∧ (convert 68 9 (.slice (some ⟨g, 0, none⟩) l.length cap)).run Tryd.prog W = .ok (.string ⟨l.toArray⟩) W := by
  obtain ⟨g, cap, rfl⟩ : ∃ g cap, v = .slice (some ⟨g, 0, none⟩) l.length cap := by
    rcases h.2 with ⟨_, h0⟩ | ⟨g, cap, _, hv, _⟩
    · omega
    · exact ⟨g, cap, hv⟩
  refine ⟨g, cap, rfl, run_convert_bytes_back W 68 9 5 ⟨g, 0, none⟩ cap l Tryd.underlying68 Tryd.underlying5 Tryd.underlying9 ?_⟩
  intro j hj
  exact h.cells (g := g) rfl j _ (by simp [bytesV, hj])

theorem putInt_no (n : Int) (w : World) (h : n < -4611686018427387903 ∨ 4611686018427387903 < n) :
    Calls Tryd.prog 49 #[.int .i64 n] w (PutEnd n w) := by
  have hp : PutEnd n w (.returned (.tuple #[.string ⟨#[]⟩, .int .i64 10])) w := by
    unfold PutEnd bstr Enc.putBytes Enc.putErr; rw [if_pos h, if_pos h]; exact ⟨rfl, Below.refl _ _⟩
  have HP := Lib.hid hp; clear hp
  rcases h with h | h
  · go_enter Tryd.func49, Tryd.ntmps49
    go_wp2
    go_ret2
    exact HP.out
  · have h' : decide (n < -4611686018427387903) = false := by simp; omega
    go_enter Tryd.func49, Tryd.ntmps49
    go_wp2
    go_ret2
    exact HP.out

set_option maxRecDepth 100000 in
set_option maxHeartbeats 2000000 in
theorem putInt_yes (n : Int) (w : World) (hlo : -4611686018427387903 ≤ n) (hhi : n ≤ 4611686018427387903) :
    Calls Tryd.prog 49 #[.int .i64 n] w (PutEnd n w) := by
  have hp : ∀ w', Below w.heap.size w w' → PutEnd n w (.returned (.tuple #[.string ⟨(Enc.enc (Enc.zig n)).toArray⟩, .int .i64 0])) w' := by
    intro w' hb
    unfold PutEnd bstr; rw [Enc.putBytes_in hlo hhi, Enc.putErr_in hlo hhi]; exact ⟨rfl, hb⟩
  have HP := Lib.hid hp; clear hp
  have hz := Enc.zig_le hlo hhi
  have hd0 : decide (n < -4611686018427387903) = false := by simp; omega
  have hd1 : decide (4611686018427387903 < n) = false := by simp; omega
  obtain ⟨i0, hi, hz0, hz1, hz2⟩ := info_parts info_u8
  refine (callsIn_wide (n := 4)).1 ?_
  refine callsIn_of_wp_marks Tryd.func49 rfl trivial ?_ rfl
  simp only [Tryd.ntmps49, List.size_toArray, List.length_cons, List.length_nil, Nat.reduceAdd, Nat.reduceSub, Array.replicate_succ, Array.replicate_zero, List.push_toArray, List.append_toArray, List.nil_append, List.cons_append]
  gi_wp2_with (first | (refine ⟨trivial, ?_⟩; gi_at_call 60; refine (callsIn_wide.2 (fold_any n _ hlo hhi)).mono ?_; rintro e w' ⟨rfl, rfl⟩) | (refine ⟨trivial, ?_⟩; gi_at_call 59; refine (groups_in Fence.wide _ trivial rfl (Enc.zig n) _).mono ?_; rintro e w' ⟨rfl, rfl⟩))
  have bO := Boxed.new w 68 (.slice none 0 0)
  have bN := Boxed.new (w.alloc (.cells #[.slice none 0 0] 68)) 66 (.int .u64 ((Enc.zig n : Nat) : Int))
  rw [World.size_alloc] at bN
  have hB0 : Below w.heap.size w ((w.alloc (.cells #[.slice none 0 0] 68)).alloc (.cells #[.int .u64 ((Enc.zig n : Nat) : Int)] 66)) := ((Below.refl _ w).alloc (Nat.le_refl _) _).alloc (by simp) _
  refine wpIn_rangeFunc_ownG rfl (by omega) (gf := 64) (lb := #[.pointer (some ⟨w.heap.size + 1, 0, none⟩)]) rfl trivial (enters_of Tryd.func64 (by kernel_rfl) rfl)
    (groups_stops Fence.wide 3 trivial rfl (by omega) (w.heap.size + 1) w.heap.size (Enc.zig n) (by omega) _ (by simp) bN.cell) belowK_t (belowK_b (by simp; omega)) (Below.refl _ _) (fun _ => rfl)
    (fun pre W => (∃ v, Boxed W w.heap.size 68 v ∧ W.ownsRow w.heap.size 5 1 v pre.length (bytesV pre) ∧ True) ∧ Below w.heap.size w W)
    (fun _ _ _ => False)
    (OwnFrom.and (Own.from (holdsRow_own w.heap.size w.heap.size 68 5 1 (fun pre : List UInt8 => pre.length) bytesV (fun _ _ => True)) _) (ownFrom_below (Nat.le_refl _) (by simp; omega)))
    (fun _ _ _ _ _ hs _ _ => hs)
    ⟨⟨_, bO.alloc _, World.ownsRow_nil _ _ _ _, trivial⟩, hB0⟩
    (fun x => { tmps := #[.int .i64 n, undef, .string ⟨#[]⟩, .int .i64 0, .pointer (some ⟨w.heap.size, 0, none⟩), .int .u8 ((x.toNat : Nat) : Int), .int .i64 n, .bool false, .bool false, .int .i64 n, .bool false, .bool false, .int .i64 n, .int .u64 ((Enc.zig n : Nat) : Int), .func (.func 64) #[] #[.pointer (some ⟨w.heap.size + 1, 0, none⟩)], .int .u8 ((x.toNat : Nat) : Int), undef, undef, undef, undef, undef, undef], defers := [] }) ?assign ?body ?done ?stop
  case assign =>
    intro l x W K hK
    gi_wp2
    exact hK
  case body =>
    rintro l pre x W ⟨⟨v, hv, hrow, hnil⟩, hB⟩ hlt
    have hc := hv.cell
    gi_wp2_with (gi_at_builtin; refine wpListIn_append_own _ rfl _ _ 68 rfl w.heap.size 5 i0 (.int .u8 0) 1 1 Tryd.underlying68 hi hz0 hz1 hz2 rfl (by decide) _ _ _ rfl (hrow.alloc _) ⟨W.heap.size, 0, none⟩ 1 1 [.int .u8 ((x.toNat : Nat) : Int)] rfl rfl (cell_one_new _ _ _) (by simp [Value.oneCell']) (by unfold maxLen; omega) (by omega) (by have := hB.size; simp; omega) ?_; intro v' w1 hown' hgrow _; obtain ⟨g', cap', rfl⟩ := ownsRow_succ hown'; obtain ⟨hv1, hv2, hr2, hk2, hb2⟩ := hv.appended (by decide) hrow hB.size (Nat.le_refl _) hown' hgrow; have hc1 := hv1.cell; have hf1 := hv1.frozen)
    exact ⟨hk2.from _, hb2, ⟨_, hv2, by simpa [bytesV] using hr2, trivial⟩, hB.trans hb2⟩
  case done =>
    rintro D ys W hD rfl ⟨⟨v, hv, hrow, hnil⟩, hB⟩ hK
    obtain ⟨g, cap, rfl, hconv⟩ := row_string hrow (Enc.enc_pos _)
    have hc := hv.cell
    gi_wp2
    refine ⟨by simp, .inl ⟨_, _, rfl, run_takeDeferred hK, ?_⟩⟩
    refine ⟨_, results_tmp2 rfl _ _ _, ?_⟩
    exact HP.out _ (hB.trans (belowK_b (w := w) (Nat.le_refl _) W D _ _ (by simp at hD; omega) hK rfl rfl))
  case stop =>
    rintro D c pre W _ _ h _
    exact h.elim

theorem putInt_any (n : Int) (w : World) : Calls Tryd.prog 49 #[.int .i64 n] w (PutEnd n w) := by
  by_cases h : n < -4611686018427387903 ∨ 4611686018427387903 < n
  · exact putInt_no n w h
  · exact putInt_yes n w (by omega) (by omega)
end Go.Proofs.YtnmjcjkjdbkpnaaDoor.Wa

