/-
  The reference's Digits: a numeral. Condition: the number is from 0 to 1000000.
-/
import Derived.Test.YtblnfcffalaeaaaGreatDoorHold
import Derived.Test.YtblnfcffalaeaaaGreatDoorFlD
namespace Go.Proofs.YtblnfcffalaeaaaGreatDoor
open Go.RowKit Go.Shelf

theorem dec_len {u : Nat} (h : u ≤ 1000000) : (Lib.decDigits u).length ≤ 10 := by
  have := Fl.itoa_len10 (n := (u : Int)) (by omega) (by omega)
  unfold Lib.itoa at this
  rw [if_neg (by omega)] at this
  simp at this; omega

/-- One byte as a string, behind the row that holds it. -/
theorem one_byte (w : World) (b : Int) (h0 : 0 ≤ b) (h1 : b ≤ 255) :
    (convert 44 9 (.slice (some ⟨w.heap.size, 0, none⟩) 1 1)).run Tryz.prog (w.alloc (.cells #[.int .u8 b] 5)) = .ok (.string ⟨#[UInt8.ofNat b.toNat]⟩) (w.alloc (.cells #[.int .u8 b] 5)) := by
  have e : (UInt8.ofNat b.toNat).toNat = b.toNat := by rw [UInt8.toNat_ofNat']; omega
  refine run_convert_bytes_back _ 44 9 5 ⟨w.heap.size, 0, none⟩ 1 [UInt8.ofNat b.toNat] Tryz.underlying44 Tryz.underlying5 Tryz.underlying9 ?_
  intro j hj
  have hj0 : j = 0 := by simpa using hj
  subst hj0
  have : (((UInt8.ofNat b.toNat).toNat : Nat) : Int) = b := by rw [e]; omega
  show _ = some (Value.int .u8 (((UInt8.ofNat b.toNat).toNat : Nat) : Int))
  rw [this]
  simp [go_sem, Addr.add]

/-- How far Digits has come: what is left, and what is written. -/
def Dig (N u : Nat) (l : List UInt8) : Prop := (l = [] ∧ u = N) ∨ (l ≠ [] ∧ (if u = 0 then l else Lib.decDigits u ++ l) = Lib.decDigits N)
theorem Dig.next {N u : Nat} {l : List UInt8} (h : Dig N u l) (hl : l = [] ∨ 0 < u) : Dig N (u / 10) (UInt8.ofNat (48 + u % 10) :: l) := by
  refine .inr ⟨by simp, ?_⟩
  have key : ∀ r, (if u / 10 = 0 then UInt8.ofNat (48 + u % 10) :: r else Lib.decDigits (u / 10) ++ UInt8.ofNat (48 + u % 10) :: r) = Lib.decDigits u ++ r := by
    intro r
    conv => rhs; rw [Lib.decDigits]
    by_cases hu : u < 10
    · rw [if_pos (by omega), dif_pos hu, Nat.mod_eq_of_lt hu]; rfl
    · rw [if_neg (by omega), dif_neg hu]; simp
  rw [key]
  rcases h with ⟨rfl, rfl⟩ | ⟨h1, h2⟩
  · simp
  · rcases hl with rfl | hl
    · exact absurd rfl h1
    · rwa [if_neg (by omega)] at h2
theorem Dig.last {N : Nat} {l : List UInt8} (h : Dig N 0 l) (hl : l ≠ []) : l = Lib.decDigits N := by
  rcases h with ⟨rfl, _⟩ | ⟨_, h2⟩
  · exact absurd rfl hl
  · simpa using h2
theorem Dig.len {N u : Nat} {l : List UInt8} (h : Dig N u l) (hN : N ≤ 1000000) : l.length ≤ 10 := by
  have := dec_len hN
  rcases h with ⟨rfl, rfl⟩ | ⟨_, h2⟩
  · simp
  · split at h2
    · subst h2; exact this
    · have e := congrArg List.length h2
      rw [List.length_append] at e; omega

def sizeOne (v : Value) : Nat := match v with | .string b => if b.size = 0 then 1 else 0 | _ => 0
theorem sizeOne_cons (c : UInt8) (l : List UInt8) : sizeOne (.string ⟨(c :: l).toArray⟩) = 0 := by
  show (if (c :: l).toArray.size = 0 then 1 else 0) = 0
  simp
theorem sizeOne_nil : sizeOne (.string ⟨[].toArray⟩) = 1 := rfl

set_option maxRecDepth 100000 in
set_option maxHeartbeats 1000000 in
theorem refDigits_pos (N : Nat) (w : World) (hN : N ≤ 1000000) :
    Calls Tryz.prog 33 #[.int .i64 (N : Int)] w fun e w' => e = .returned (.string ⟨(Lib.decDigits N).toArray⟩) ∧ Below w.heap.size w w' := by
  have hbd : ∀ (u : Nat) (wr : World), u ≤ N → (convert 44 9 (.slice (some ⟨wr.heap.size, 0, none⟩) 1 1)).run Tryz.prog (wr.alloc (.cells #[.int .u8 (48 + (u : Int) % 10)] 5)) = .ok (.string ⟨#[UInt8.ofNat (48 + u % 10)]⟩) (wr.alloc (.cells #[.int .u8 (48 + (u : Int) % 10)] 5)) := fun u wr _ => by
    have := one_byte wr (48 + (u : Int) % 10) (by omega) (by omega)
    rw [show (48 + (u : Int) % 10).toNat = 48 + u % 10 by omega] at this
    exact this
  have HC := Lib.hid hbd; clear hbd
  have HN := Lib.hid hN; clear hN
  go_enter Tryz.func33, Tryz.ntmps33
  go_wp2_with fail
  go_loopw [0, 3] (fun x s wr => ∃ (u : Nat) (l : List UInt8), x = .int .i64 (u : Int) ∧ s = .string ⟨l.toArray⟩ ∧ Hid (Dig N u l) ∧ Hid (u ≤ N) ∧ Below w.heap.size w wr) (fun x s _ => (intOf x).toNat + sizeOne s)
  case atStart => exact ⟨N, [], rfl, rfl, Lib.hid (.inl ⟨rfl, rfl⟩), Lib.hid (Nat.le_refl _), Below.refl _ _⟩
  case round =>
    obtain ⟨u, l, rfl, rfl, HD, HU, hb⟩ := hrel
    have hcv := HC.out u wr HU.out
    have hu0 : (0 : Int) ≤ u := by omega
    have hu1 : (u : Int) ≤ 1000000 := by have := HU.out; have := HN.out; omega
    have HB := Lib.hid hb; clear hb
    have HE0 := fun h => HD.out.next h
    obtain ⟨c, hc⟩ : ∃ c, UInt8.ofNat (48 + u % 10) = c := ⟨_, rfl⟩
    rw [hc] at HE0 hcv
    have hlen := HD.out.len HN.out
    have hbx : Below w.heap.size w (wr.alloc (.cells #[.int .u8 (48 + (u : Int) % 10)] 5)) := below_step HB.out (below_new _ _)
    have HBX := Lib.hid hbx
    have e5 : ∀ W, (Op.stringOp .add ⟨#[c]⟩ ⟨l.toArray⟩).run Tryz.prog W = .ok (.string (⟨#[c]⟩ ++ ⟨l.toArray⟩)) W := fun W => run_string_add_sum _ _ _ (by show 1 + l.toArray.size ≤ _; simp; omega)
    have hs : (⟨#[c]⟩ ++ ⟨l.toArray⟩ : ByteArray) = ⟨(c :: l).toArray⟩ := by apply ByteArray.ext; simp
    have HS := Lib.hid hs
    clear hbx hs hc hlen
    by_cases hl : l = []
    · subst hl
      have HE := Lib.hid (HE0 (.inl rfl))
      clear HE0
      go_wp2_with fail
      go_roundw
      case rel => exact ⟨u / 10, [c], by simp, by rw [HS.out], HE, Lib.hid (by have := HU.out; omega), HBX.out⟩
      case measure => rw [HS.out, sizeOne_cons, sizeOne_nil]; simp [intOf]; omega
    · by_cases hu : 0 < u
      · have HE := Lib.hid (HE0 (.inr hu))
        clear HE0
        have hg : decide (0 < (u : Int)) = true := by simp; omega
        have hn1 : (⟨l.toArray⟩ : ByteArray).toList.isEmpty = false := by rw [Lib.toList_data]; simp [hl]
        go_wp2_with fail
        go_roundw
        case rel => exact ⟨u / 10, c :: l, by simp, by rw [HS.out], HE, Lib.hid (by have := HU.out; omega), HBX.out⟩
        case measure => rw [HS.out, sizeOne_cons]; simp [intOf]; omega
      · have hu' : u = 0 := by omega
        have hr := Dig.last (by have := HD.out; rwa [hu'] at this) hl
        have hg : decide (0 < u) = false := by simp; omega
        have HR := Lib.hid hr
        have hn1 : l.isEmpty = false := by simp [hl]
        clear hr HE0 hcv hu' hu
        go_wp2_with fail
        go_ret
        exact ⟨by rw [HR.out]; rfl, HB.out⟩

theorem refDigits_any (n : Int) (w : World) (h1 : 0 ≤ n) (h2 : n ≤ 1000000) :
    Calls Tryz.prog 33 #[.int .i64 n] w fun e w' => e = .returned (.string (bs (Lib.itoa n))) ∧ Below w.heap.size w w' := by
  have hp := refDigits_pos n.toNat w (by omega)
  rw [show ((n.toNat : Nat) : Int) = n by omega] at hp
  refine hp.mono ?_
  rintro e w1 ⟨rfl, g1⟩
  exact ⟨by unfold Lib.itoa; rw [if_neg (by omega)], g1⟩
end Go.Proofs.YtblnfcffalaeaaaGreatDoor
