/-
  Slices of strings as lists, and the contracts of the small functions of layer 2's statements: few, left, binary.
-/
import Derived.Test.YtbaggjhjkignkaaDoorChecked
import Derived.Test.YtbaggjhjkignkaaDoorTree
import Derived.WalkKit
import Derived.OwnWalk
import Derived.Outline
import Derived.Lib.Hide
import Derived.WalkSmall
import Derived.LoopTactic
import Derived.RegionTactic
import Derived.ChangeAlike
import Derived.StillTailTactics
import Derived.Deep.QuietTactic
import Derived.BigQuiet
import Derived.Maps.AppendAt
import Derived.Deep.RegionHeld3
import Derived.Deep.AppendLies
namespace Go.Proofs.YtbaggjhjkignkaaDoor
open Go.RowKit

theorem below_step {w w1 w2 : World} (a : Below w.heap.size w w1) (b : Below w1.heap.size w1 w2) : Below w.heap.size w w2 := a.trans (b.mono a.size)

/-- A slice of strings that reads as L. -/
def StrA (w : World) (a : Option Addr) (c : Nat) (L : List ByteArray) : Prop :=
  L.length ≤ c ∧ c ≤ maxLen ∧ ∀ i (h : i < L.length), ∃ b off : Nat, a = some ⟨b, off, none⟩ ∧ b < w.heap.size ∧ w.cell? ⟨b, off + i, none⟩ = some (.string L[i])
theorem StrA.below {w w' : World} {a : Option Addr} {c : Nat} {L : List ByteArray} (h : StrA w a c L) (hb : Below w.heap.size w w') : StrA w' a c L := by
  refine ⟨h.1, h.2.1, fun i hi => ?_⟩
  obtain ⟨b, off, rfl, h1, h2⟩ := h.2.2 i hi
  exact ⟨b, off, rfl, Nat.lt_of_lt_of_le h1 hb.size, (hb.cell (p := ⟨b, off + i, none⟩) h1).trans h2⟩
/-- Strings as values. -/
def strV (L : List ByteArray) : List Value := L.map Value.string
/-- A row of strings that the call has made. -/
def StrOwn (w : World) (base : Nat) (v : Value) (L : List ByteArray) : Prop := w.ownsRow base 9 1 v L.length (strV L)
theorem StrOwn.arg {w : World} {base : Nat} {v : Value} {L : List ByteArray} (h : StrOwn w base v L) : ∃ a c, v = .slice a L.length c ∧ StrA w a c L := by
  obtain ⟨h1, ⟨rfl, h2⟩ | ⟨g, cap, cur, rfl, h2, h3, h4, h5, h6, h7⟩⟩ := h
  · exact ⟨none, 0, by rw [h2], by omega, by decide, fun i hi => by omega⟩
  · refine ⟨_, cap, rfl, h4, h5, fun i hi => ⟨g, 0, rfl, ?_, ?_⟩⟩
    · exact (Array.getElem?_eq_some_iff.1 h3).1
    · have hrow : w.ownsRow base 9 1 (.slice (some ⟨g, 0, none⟩) L.length cap) L.length (strV L) := ⟨h1, .inr ⟨g, cap, cur, rfl, h2, h3, h4, h5, h6, h7⟩⟩
      have := hrow.cells (g := g) rfl i (.string L[i]) (by simp [strV, hi])
      cases i <;> simpa [Addr.add] using this
theorem StrOwn.snoc {w : World} {base : Nat} {v : Value} {L : List ByteArray} {x : ByteArray} (h : w.ownsRow base 9 1 v (L.length + 1) (strV L ++ [.string x])) : StrOwn w base v (L ++ [x]) := by
  unfold StrOwn strV
  rw [List.length_append, List.map_append]
  exact h
theorem StrOwn.below {w w' : World} {base : Nat} {v : Value} {L : List ByteArray} (h : StrOwn w base v L) (hb : Below w.heap.size w w') : StrOwn w' base v L := by
  obtain ⟨h1, h2 | ⟨g, cap, cur, rfl, h2, h3, h4⟩⟩ := h
  · exact ⟨h1, .inl h2⟩
  · exact ⟨h1, .inr ⟨g, cap, cur, rfl, h2, by rw [hb.block g (Array.getElem?_eq_some_iff.1 h3).1]; exact h3, h4⟩⟩
theorem StrOwn.mono {w : World} {base base' : Nat} {v : Value} {L : List ByteArray} (h : StrOwn w base v L) (hb : base' ≤ base) : StrOwn w base' v L := by
  obtain ⟨h1, h2 | ⟨g, cap, cur, rfl, h2, h3, h4⟩⟩ := h
  · exact ⟨h1, .inl h2⟩
  · exact ⟨h1, .inr ⟨g, cap, cur, rfl, Nat.le_trans hb h2, h3, h4⟩⟩
/-- What a row that is not empty is. -/
theorem StrOwn.open {w : World} {base : Nat} {v : Value} {L : List ByteArray} (h : StrOwn w base v L) (hL : 0 < L.length) : ∃ g cap, v = .slice (some ⟨g, 0, none⟩) L.length cap ∧ base ≤ g ∧ g < w.heap.size ∧ cap ≤ maxLen ∧
    ∀ j u, (strV L)[j]? = some u → w.cell? ((⟨g, 0, none⟩ : Addr).add j) = some u := by
  obtain ⟨h1, ⟨rfl, h2⟩ | ⟨g, cap, cur, rfl, h2, h3, h4, h5, h6, h7⟩⟩ := h
  · omega
  · have hrow : w.ownsRow base 9 1 (.slice (some ⟨g, 0, none⟩) L.length cap) L.length (strV L) := ⟨h1, .inr ⟨g, cap, cur, rfl, h2, h3, h4, h5, h6, h7⟩⟩
    exact ⟨g, cap, rfl, h2, (Array.getElem?_eq_some_iff.1 h3).1, h5, fun j u hu => hrow.cells (g := g) rfl j u hu⟩
theorem strV_one (L : List ByteArray) : ∀ u ∈ strV L, u.oneCell' = true := fun u hu => by
  unfold strV at hu
  obtain ⟨s, _, rfl⟩ := List.mem_map.1 hu
  simp [Value.oneCell']
theorem StrOwn.cons {w : World} {base : Nat} {v : Value} {L : List ByteArray} {x : ByteArray} (h : w.ownsRow base 9 1 v (1 + L.length) ([.string x] ++ strV L)) : StrOwn w base v (x :: L) := by
  unfold StrOwn strV
  rw [List.length_cons, List.map_cons, Nat.add_comm]
  exact h
theorem addr_block (a : Addr) (n : Nat) : (a.add n).block = a.block := by unfold Addr.add; split <;> rfl
/-- A literal of one string. -/
theorem StrOwn.lit (w : World) (x : ByteArray) : StrOwn (w.alloc (.cells #[.string x] 9)) w.heap.size (.slice (some ⟨w.heap.size, 0, none⟩) 1 1) [x] :=
  ⟨rfl, .inr ⟨w.heap.size, 1, #[.string x], rfl, Nat.le_refl _, heap_alloc_new w _, Nat.le_refl _, by decide, rfl, rfl⟩⟩
theorem info_string : (Tryd.prog.info? 9).map (fun i => (i.zero, i.size, i.bytes)) = some (some (.string ⟨#[]⟩), 1, 16) := by kernel_rfl

/-- At most the first 60 bytes of a string. -/
def cut60 (t : ByteArray) : ByteArray := t.extract 0 (min t.size 60)
theorem cut60_le (t : ByteArray) : (cut60 t).size ≤ 60 := by unfold cut60; rw [ByteArray.size_extract]; omega
/-- The number of its bytes, as 'min' gives it. -/
theorem min60 (t : ByteArray) : ∃ m : Nat, (if (60 : Int) < (t.size : Int) then (60 : Int) else (t.size : Int)) = (m : Int) ∧ min (t.size : Int) 60 = (m : Int) ∧ m ≤ t.size ∧ t.extract 0 m = cut60 t :=
  ⟨min t.size 60, by split <;> omega, by omega, by omega, rfl⟩
/-- What few answers. -/
def fewS (L : List ByteArray) (n : Nat) : List ByteArray := (L.take n).map cut60
theorem few_le (L : List ByteArray) (n : Nat) : (fewS L n).length ≤ n := by simp [fewS]; omega

set_option maxRecDepth 100000 in
set_option maxHeartbeats 2000000 in
theorem few_any (a : Option Addr) (c : Nat) (L : List ByteArray) (n : Nat) (w : World) (hA : StrA w a c L) (hn : n ≤ 100) (hs : ∀ x ∈ L, x.size ≤ maxLen) :
    Calls Tryd.prog 15 #[.slice a L.length c, .int .i64 n] w fun e w' => (∃ v, e = .returned v ∧ StrOwn w' w.heap.size v (fewS L n)) ∧ Below w.heap.size w w' := by
  have HA := Lib.hid hA
  have hc := hA.2.1
  have hlc := hA.1
  unfold maxLen at hc
  clear hA
  go_enter Tryd.func15, Tryd.ntmps15
  obtain ⟨i0, hi, hz0, hz1, hz2⟩ := info_parts info_string
  go_wp2_with fail
  go_loopw [5, 6] (fun v i wr => ∃ k : Nat, k ≤ n ∧ k ≤ L.length ∧ i = .int .i64 k ∧ StrOwn wr w.heap.size v (fewS L k) ∧ Below w.heap.size w wr) (fun _ i _ => L.length - (intOf i).toNat)
  case atStart => exact ⟨0, by omega, by omega, rfl, World.ownsRow_nil _ _ _ _, Below.refl _ _⟩
  case round =>
    obtain ⟨k, hk, hkl, rfl, hown, hbr⟩ := hrel
    by_cases h1 : k < L.length
    · by_cases h2 : k < n
      · obtain ⟨b, off, rfl, l1, l0⟩ := HA.out.2.2 k h1
        have l2 := (hbr.cell (p := ⟨b, off + k, none⟩) l1).trans l0
        have hki : (k : Int) < (L.length : Int) := by omega
        have hsz : L[k].size ≤ maxLen := hs _ (List.getElem_mem h1)
        obtain ⟨m, hm, hm', hm1, hm2⟩ := min60 L[k]
        have hm3 : (m : Int) ≤ (L[k].size : Int) := by omega
        have hF : fewS L (k + 1) = fewS L k ++ [cut60 L[k]] := by
          unfold fewS; rw [List.take_succ_eq_append_getElem h1, List.map_append]; rfl
        have HF := Lib.hid hF
        clear hF l0
        have hfl := few_le L k
        generalize L[k] = x at *
        have hB := hbr.size
        have hlt := fun k e => (hown.lt k e).1
        have hap : u5.ownBlock ≠ some b := fun e => by have := hlt b e; omega
        go_wp2_with fail
        go_region_held3 (fun w' => w'.cell? ⟨b, off + k, none⟩ = some (.string x)) (first | go_keep | (rw [hgrow.cell_far _ (by simp; omega) (Ne.symm hap)]; assumption))
          ((refine step_append_lies _ (by rfl) _ _ _ (by rfl) w.heap.size 9 i0 _ 1 16 Tryd.underlying26 hi hz0 hz1 hz2 rfl (by omega) u5 (fewS L k).length (strV (fewS L k)) (by rfl) ((hown.alloc _).drew)
              ⟨wr.heap.size, 0, none⟩ 1 1 [.string (cut60 x)] (by rfl) (by rfl) (World.news_of_block (cs := #[.string (cut60 x)]) (t := 9) (fr := (0, 0)) (heap_alloc_new wr _)) (by simp [Value.oneCell'])
              (by omega) (by unfold maxLen; omega) (by omega) (by simp; omega) (wr.heap.size + 1) (by simp) ?_; intro gg cap w2 hown2 hgrow hat hlt2))
        have hb2 : Below w.heap.size w w2 := ((hbr.alloc hB _).drew).grown hgrow (by simp; omega) hlt
        have HO := Lib.hid (StrOwn.snoc hown2)
        clear hown2 hgrow hat hm hm' hm2
        go_wp2_with fail
        go_roundw
        case rel => exact ⟨k + 1, by omega, by omega, by go_num, by rw [HF.out]; exact HO.out, hb2⟩
        case measure => simp [intOf]; omega
      · have h2' : decide ((k : Int) < (n : Int)) = false := by simp; omega
        have hke : fewS L k = fewS L n := by rw [show k = n by omega]
        rw [hke] at hown
        go_wp2_with fail
        go_ret
        exact ⟨⟨_, rfl, hown⟩, hbr⟩
    · have hke : fewS L k = fewS L n := by unfold fewS; rw [List.take_of_length_le (by omega), List.take_of_length_le (by omega)]
      rw [hke] at hown
      go_wp2_with fail
      go_ret
      exact ⟨⟨_, rfl, hown⟩, hbr⟩
end Go.Proofs.YtbaggjhjkignkaaDoor

