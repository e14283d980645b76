/-
  The contract of wire.join: the number whose groups begin at an offset, the offset after them, and whether they are an encoding's. Condition: the offset is one into the string.
-/
import Derived.Test.YtnmjcjkjdbkpnaaDoorWaSmall
import Derived.LoopTactic
namespace Go.Proofs.YtnmjcjkjdbkpnaaDoor.Wa
open Go.RowKit

theorem toList_drop (s : ByteArray) (k : Nat) (h : k < s.size) : s.data.toList.drop k = s[k] :: s.data.toList.drop (k + 1) := by
  rw [List.drop_eq_getElem_cons (by simpa using h)]; rfl
theorem toList_len (s : ByteArray) : s.data.toList.length = s.size := by simp

/-- What k groups of the list L have come to: z0, of the first k groups; all of them go on. -/
def DecRel (L : List UInt8) (k z0 : Nat) : Prop :=
  z0 < 128 ^ k ∧ Enc.dec 9 L = (Enc.dec (9 - k) (L.drop k)).map fun x => (z0 + 128 ^ k * x.1, k + x.2.1, x.2.2)
theorem DecRel.zero (L : List UInt8) : DecRel L 0 0 := by
  refine ⟨by simp, ?_⟩
  simp only [Nat.sub_zero, List.drop_zero, Nat.pow_zero, Nat.one_mul, Nat.zero_add]
  cases Enc.dec 9 L <;> rfl
theorem DecRel.next {L : List UInt8} {k z0 : Nat} (h : DecRel L k z0) (hk : k < 9) {b : UInt8} (hb : L.drop k = b :: L.drop (k + 1)) (hc : 128 ≤ b.toNat) : DecRel L (k + 1) (z0 + b.toNat % 128 * 128 ^ k) := by
  obtain ⟨h1, h2⟩ := h
  have e : 9 - k = (9 - (k + 1)) + 1 := by omega
  have hm : b.toNat % 128 * 128 ^ k ≤ 127 * 128 ^ k := Nat.mul_le_mul_right _ (by omega)
  refine ⟨by rw [Nat.pow_succ]; omega, ?_⟩
  rw [h2, e, hb, Enc.dec, if_neg (by omega)]
  cases Enc.dec (9 - (k + 1)) (L.drop (k + 1)) with
  | none => rfl
  | some x =>
    simp only [Option.map_some, Option.some.injEq, Prod.mk.injEq, and_true]
    refine ⟨?_, by omega⟩
    rw [Nat.pow_succ, Nat.mul_add, ← Nat.mul_assoc, Nat.mul_comm (128 ^ k) (b.toNat % 128)]
    omega
theorem DecRel.last {L : List UInt8} {k z0 : Nat} (h : DecRel L k z0) (hk : k < 9) {b : UInt8} {r : List UInt8} (hb : L.drop k = b :: r) (hc : b.toNat < 128) : Enc.dec 9 L = some (z0 + b.toNat % 128 * 128 ^ k, k + 1, b) := by
  obtain ⟨_, h2⟩ := h
  have e : 9 - k = (9 - (k + 1)) + 1 := by omega
  rw [h2, e, hb, Enc.dec, if_pos hc]
  simp only [Option.map_some, Option.some.injEq, Prod.mk.injEq, and_true]
  rw [Nat.mod_eq_of_lt hc, Nat.mul_comm]
theorem DecRel.none {L : List UInt8} {k z0 : Nat} (h : DecRel L k z0) (hk : k = 9 ∨ L.drop k = []) : Enc.dec 9 L = none := by
  obtain ⟨_, h2⟩ := h
  rw [h2]
  rcases hk with rfl | hk
  · rfl
  · rw [hk]; cases 9 - k <;> rfl

/-- 'z |= uint64(b&127) << (7 * k)'. -/
theorem orShift (z0 b k : Nat) (hk : k < 9) (hz : z0 < 128 ^ k) (hb : b < 256) :
    bits .or .u64 (z0 : Int) (IntKind.u64.wrap (IntKind.u64.wrap (bits .and .u8 (b : Int) 127) * 2 ^ (7 * k))) = ((z0 + b % 128 * 128 ^ k : Nat) : Int) := by
  have hp : (2 : Nat) ^ (7 * k) = 128 ^ k := by rw [Nat.pow_mul]
  have hp' : (2 : Int) ^ (7 * k) = ((128 ^ k : Nat) : Int) := by rw [← hp]; simp
  have h9 : 128 ^ k ≤ 128 ^ 8 := Nat.pow_le_pow_right (by omega) (by omega)
  have h8 : (128 : Nat) ^ 8 = 72057594037927936 := by decide
  have hm : b % 128 * 128 ^ k ≤ 127 * 128 ^ k := Nat.mul_le_mul_right _ (by omega)
  rw [u8_and127 b hb, wraps_u64' ((b % 128 : Nat) : Int) (by omega) (by omega), hp']
  have e : (((b % 128 : Nat) : Int) * ((128 ^ k : Nat) : Int)) = ((b % 128 * 128 ^ k : Nat) : Int) := by simp
  rw [e, wraps_u64' _ (by omega) (by omega)]
  exact u64_or_join (7 * k) _ _ (by omega) (by rw [hp]; exact hz) (by rw [hp]; exact Nat.mul_mod_left _ _) (by omega)

/-- What join answers. -/
def joinV (L : List UInt8) (a : Nat) : Nat × Int × Bool :=
  match Enc.dec 9 L with
  | some (z, m, b) => (z, (a : Int) + m, decide (b ≠ 0 ∨ m = 1))
  | none => (0, 0, false)

def JoinEnd (L : List UInt8) (a : Nat) (w : World) (e : Ending) (w' : World) : Prop :=
  e = .returned (.tuple #[.int .u64 ((joinV L a).1 : Nat), .int .i64 (joinV L a).2.1, .bool (joinV L a).2.2]) ∧ w = w'

theorem join_end {L : List UInt8} {a z m : Nat} {b : UInt8} {w : World} (h : Enc.dec 9 L = some (z, m, b)) {x y : Int} {o : Bool} (hx : x = z) (hy : y = (a : Int) + m) (ho : o = decide (b ≠ 0 ∨ m = 1)) :
    JoinEnd L a w (.returned (.tuple #[.int .u64 x, .int .i64 y, .bool o])) w := by
  unfold JoinEnd joinV
  rw [h]; subst hx; subst hy; subst ho
  exact ⟨rfl, rfl⟩
theorem join_no {L : List UInt8} {a : Nat} {w : World} (h : Enc.dec 9 L = none) :
    JoinEnd L a w (.returned (.tuple #[.int .u64 0, .int .i64 0, .bool false])) w := by
  unfold JoinEnd joinV
  rw [h]
  exact ⟨rfl, rfl⟩

set_option maxRecDepth 100000 in
set_option maxHeartbeats 400000 in
theorem join_any (s : ByteArray) (a : Nat) (w : World) (hs : s.size ≤ maxLen) (ha : a ≤ s.size) :
    Calls Tryd.prog 66 #[.string s, .int .i64 (a : Int)] w (JoinEnd (s.data.toList.drop a) a w) := by
  unfold maxLen at hs
  go_enter Tryd.func66, Tryd.ntmps66
  go_wp2
  go_loop [7, 8] (fun z i => ∃ k z0 : Nat, k ≤ 9 ∧ a + k ≤ s.size ∧ i = .int .i64 k ∧ z = .int .u64 z0 ∧ DecRel (s.data.toList.drop a) k z0) (fun _ i => 9 - (intOf i).toNat)
  case atStart => exact ⟨0, 0, by omega, by omega, rfl, rfl, DecRel.zero _⟩
  case round =>
    obtain ⟨k, z0, hk, hak, rfl, rfl, hd⟩ := hrel
    by_cases h9 : k < 9
    · by_cases hl : a + k < s.size
      · have hb : (s.data.toList.drop a).drop k = s[a + k] :: (s.data.toList.drop a).drop (k + 1) := by
          rw [List.drop_drop, List.drop_drop, toList_drop s (a + k) hl, Nat.add_assoc]
        have hlt : s[a + k].toNat < 256 := s[a + k].toNat_lt
        have HO := Lib.hid (orShift z0 s[a + k].toNat k h9 hd.1 hlt)
        have HO0 := Lib.hid (orShift z0 0 k h9 hd.1 (by omega))
        have HB := Lib.hid hb
        clear hb hlt
        go_wp2
        · have h0 : s[a + k].toNat = 0 := by assumption
          go_ret3
          refine join_end (hd.last h9 HB.out (by omega)) (by rw [h0]; exact HO0.out) (by omega) ?_
          have e : s[a + k] = 0 := UInt8.toNat_inj.1 (by rw [h0]; rfl)
          rw [e, Bool.eq_iff_iff]
          simp
        · have h0 : ¬ s[a + k].toNat = 0 := by assumption
          have h1 : (s[a + k].toNat : Int) < 128 := by assumption
          go_ret3
          refine join_end (hd.last h9 HB.out (by omega)) HO.out (by omega) ?_
          have e : s[a + k] ≠ 0 := fun e => h0 (by rw [e]; rfl)
          simp [e]
        · have h1 : (128 : Int) ≤ s[a + k].toNat := by assumption
          go_round
          case rel => exact ⟨k + 1, _, by omega, by omega, by go_num, by rw [HO.out], hd.next h9 HB.out (by omega)⟩
          case measure => simp [intOf]; omega
      · have hn := hd.none (.inr (by rw [List.drop_drop]; exact List.drop_eq_nil_of_le (by rw [toList_len]; omega)))
        have HN := Lib.hid hn; clear hn
        go_wp2
        go_ret3
        exact join_no HN.out
    · have h8 : decide ((k : Int) < 9) = false := by simp; omega
      have hn := hd.none (.inl (by omega))
      have HN := Lib.hid hn; clear hn
      go_wp2
      go_ret3
      exact join_no HN.out
end Go.Proofs.YtnmjcjkjdbkpnaaDoor.Wa

