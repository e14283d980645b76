/-
  Flows on paper: where a step's and a window's line stands; a flow with less windows.
  The reference's Digits: a numeral. Condition: the number is from 0 to 1000000.
  The reference's list: numbers with commas. Condition: at most 1000 numbers from 0 to 1000000.
  The reference's WindowLine and StepLine (written by tools/l04_refline.py). Conditions: a window, a step of a valid flow; a number from 0 to 1000.
  The reference's within, moves, Ascending, window, step: which numbers, lists, windows and steps are valid.
  The reference's Valid (written by tools/l04_refvalid.py): for every flow in memory.
  The reference's Print (written by tools/l04_refprint.py): for every flow in memory.
  The reference's SameInts and Same: are two lists, two flows equal?
-/
import Derived.Test.YtblnfcffalaeaaaGreatDoorFlC
import Derived.Test.YtblnfcffalaeaaaGreatDoorHold
import Derived.Test.YtblnfcffalaeaaaGreatDoorFlD
import Derived.Test.YtblnfcffalaeaaaGreatDoorPrn
import Derived.Deep.LoopGhost
import Derived.Deep.DeepCutAuto
import Derived.Deep.RegionHeld3
import Derived.Test.YtblnfcffalaeaaaGreatDoorMake
import Derived.Deep.QuietTactic
import Derived.Test.YtblnfcffalaeaaaGreatDoorFlH
import Derived.Test.YtblnfcffalaeaaaGreatDoorPrint
import Derived.Test.YtblnfcffalaeaaaGreatDoorSameB
namespace Go.Proofs.YtblnfcffalaeaaaGreatDoor.Fl
open Go.Lib

theorem stepBodies_length : ∀ (n : Int) (l : List Step), (stepBodies n l).length = l.length
  | _, [] => rfl
  | n, s :: l => by simp [stepBodies, stepBodies_length (n + 1) l]
theorem bodies_length (f : Flow) : (bodies f).length = 1 + f.steps.length + f.wins.length := by
  unfold bodies; simp [stepBodies_length]; omega
theorem stepBodies_get : ∀ (n : Int) (l : List Step) (i : Nat) (h : i < l.length), (stepBodies n l)[i]? = some (join (stepWords (n + i) l[i]) [32])
  | n, s :: l, 0, _ => by simp [stepBodies]
  | n, s :: l, i + 1, h => by
    have := stepBodies_get (n + 1) l i (by simpa using h)
    simp only [stepBodies, List.getElem?_cons_succ, List.getElem_cons_succ]
    rw [this, show n + 1 + (i : Int) = n + ((i + 1 : Nat) : Int) by omega]
theorem bodies_step (f : Flow) (i : Nat) (h : i < f.steps.length) : (bodies f)[1 + i]? = some (join (stepWords i f.steps[i]) [32]) := by
  unfold bodies
  rw [show 1 + i = i + 1 by omega, List.getElem?_cons_succ, List.getElem?_append_left (by rw [stepBodies_length]; exact h), stepBodies_get 0 f.steps i h]
  simp
theorem bodies_win (f : Flow) (i : Nat) (h : i < f.wins.length) : (bodies f)[1 + f.steps.length + i]? = some (join (winWords f.wins[i]) [32]) := by
  unfold bodies
  rw [show 1 + f.steps.length + i = (f.steps.length + i) + 1 by omega, List.getElem?_cons_succ, List.getElem?_append_right (by rw [stepBodies_length]; omega), stepBodies_length, show f.steps.length + i - f.steps.length = i by omega]
  simp [h]
theorem vWinsFrom_take {c : Int} : ∀ {o : Option Win} {l : List Win} (m : Nat), vWinsFrom c o l = true → vWinsFrom c o (l.take m) = true
  | o, l, 0, _ => by cases o <;> simp [vWinsFrom]
  | o, [], m + 1, h => by simpa using h
  | none, w :: l, m + 1, h => by
    simp only [vWinsFrom, Bool.and_eq_true, List.take_succ_cons] at h ⊢
    exact ⟨h.1, vWinsFrom_take m h.2⟩
  | some v, w :: l, m + 1, h => by
    simp only [vWinsFrom, Bool.and_eq_true, List.take_succ_cons] at h ⊢
    exact ⟨h.1, vWinsFrom_take m h.2⟩
theorem valid_take {f : Flow} (hv : valid f = true) (m : Nat) : valid ⟨f.least, f.most, f.steps, f.wins.take m⟩ = true := by
  have h := valid_iff.1 hv
  exact valid_iff.2 ⟨h.moves, h.pos, h.len, h.steps, by have := h.wlen; simp; omega, vWinsFrom_take m h.wins⟩
end Go.Proofs.YtblnfcffalaeaaaGreatDoor.Fl

namespace Go.Proofs.YtblnfcffalaeaaaGreatDoor
open Go.RowKit Go.Shelf

theorem dec_len {u : Nat} (h : u ≤ 1000000) : (Lib.decDigits u).length ≤ 10 := by
  have := Fl.itoa_len10 (n := (u : Int)) (by omega) (by omega)
  unfold Lib.itoa at this
  rw [if_neg (by omega)] at this
  simp at this; omega

/-- One byte as a string, behind the row that holds it. -/
theorem one_byte (w : World) (b : Int) (h0 : 0 ≤ b) (h1 : b ≤ 255) :
    (convert 44 9 (.slice (some ⟨w.heap.size, 0, none⟩) 1 1)).run Tryz.prog (w.alloc (.cells #[.int .u8 b] 5)) = .ok (.string ⟨#[UInt8.ofNat b.toNat]⟩) (w.alloc (.cells #[.int .u8 b] 5)) := by
  have e : (UInt8.ofNat b.toNat).toNat = b.toNat := by rw [UInt8.toNat_ofNat']; omega
  refine run_convert_bytes_back _ 44 9 5 ⟨w.heap.size, 0, none⟩ 1 [UInt8.ofNat b.toNat] Tryz.underlying44 Tryz.underlying5 Tryz.underlying9 ?_
  intro j hj
  have hj0 : j = 0 := by simpa using hj
  subst hj0
  have : (((UInt8.ofNat b.toNat).toNat : Nat) : Int) = b := by rw [e]; omega
  show _ = some (Value.int .u8 (((UInt8.ofNat b.toNat).toNat : Nat) : Int))
  rw [this]
  simp [go_sem, Addr.add]

/-- How far Digits has come: what is left, and what is written. -/
def Dig (N u : Nat) (l : List UInt8) : Prop := (l = [] ∧ u = N) ∨ (l ≠ [] ∧ (if u = 0 then l else Lib.decDigits u ++ l) = Lib.decDigits N)
theorem Dig.next {N u : Nat} {l : List UInt8} (h : Dig N u l) (hl : l = [] ∨ 0 < u) : Dig N (u / 10) (UInt8.ofNat (48 + u % 10) :: l) := by
  refine .inr ⟨by simp, ?_⟩
  have key : ∀ r, (if u / 10 = 0 then UInt8.ofNat (48 + u % 10) :: r else Lib.decDigits (u / 10) ++ UInt8.ofNat (48 + u % 10) :: r) = Lib.decDigits u ++ r := by
    intro r
    conv => rhs; rw [Lib.decDigits]
    by_cases hu : u < 10
    · rw [if_pos (by omega), dif_pos hu, Nat.mod_eq_of_lt hu]; rfl
    · rw [if_neg (by omega), dif_neg hu]; simp
  rw [key]
  rcases h with ⟨rfl, rfl⟩ | ⟨h1, h2⟩
  · simp
  · rcases hl with rfl | hl
    · exact absurd rfl h1
    · rwa [if_neg (by omega)] at h2
theorem Dig.last {N : Nat} {l : List UInt8} (h : Dig N 0 l) (hl : l ≠ []) : l = Lib.decDigits N := by
  rcases h with ⟨rfl, _⟩ | ⟨_, h2⟩
  · exact absurd rfl hl
  · simpa using h2
theorem Dig.len {N u : Nat} {l : List UInt8} (h : Dig N u l) (hN : N ≤ 1000000) : l.length ≤ 10 := by
  have := dec_len hN
  rcases h with ⟨rfl, rfl⟩ | ⟨_, h2⟩
  · simp
  · split at h2
    · subst h2; exact this
    · have e := congrArg List.length h2
      rw [List.length_append] at e; omega

def sizeOne (v : Value) : Nat := match v with | .string b => if b.size = 0 then 1 else 0 | _ => 0
theorem sizeOne_cons (c : UInt8) (l : List UInt8) : sizeOne (.string ⟨(c :: l).toArray⟩) = 0 := by
  show (if (c :: l).toArray.size = 0 then 1 else 0) = 0
  simp
theorem sizeOne_nil : sizeOne (.string ⟨[].toArray⟩) = 1 := rfl

set_option maxRecDepth 100000 in
set_option maxHeartbeats 1000000 in
theorem refDigits_pos (N : Nat) (w : World) (hN : N ≤ 1000000) :
    Calls Tryz.prog 33 #[.int .i64 (N : Int)] w fun e w' => e = .returned (.string ⟨(Lib.decDigits N).toArray⟩) ∧ Below w.heap.size w w' := by
  have hbd : ∀ (u : Nat) (wr : World), u ≤ N → (convert 44 9 (.slice (some ⟨wr.heap.size, 0, none⟩) 1 1)).run Tryz.prog (wr.alloc (.cells #[.int .u8 (48 + (u : Int) % 10)] 5)) = .ok (.string ⟨#[UInt8.ofNat (48 + u % 10)]⟩) (wr.alloc (.cells #[.int .u8 (48 + (u : Int) % 10)] 5)) := fun u wr _ => by
    have := one_byte wr (48 + (u : Int) % 10) (by omega) (by omega)
    rw [show (48 + (u : Int) % 10).toNat = 48 + u % 10 by omega] at this
    exact this
  have HC := Lib.hid hbd; clear hbd
  have HN := Lib.hid hN; clear hN
  go_enter Tryz.func33, Tryz.ntmps33
  go_wp2_with fail
  go_loopw [0, 3] (fun x s wr => ∃ (u : Nat) (l : List UInt8), x = .int .i64 (u : Int) ∧ s = .string ⟨l.toArray⟩ ∧ Hid (Dig N u l) ∧ Hid (u ≤ N) ∧ Below w.heap.size w wr) (fun x s _ => (intOf x).toNat + sizeOne s)
  case atStart => exact ⟨N, [], rfl, rfl, Lib.hid (.inl ⟨rfl, rfl⟩), Lib.hid (Nat.le_refl _), Below.refl _ _⟩
  case round =>
    obtain ⟨u, l, rfl, rfl, HD, HU, hb⟩ := hrel
    have hcv := HC.out u wr HU.out
    have hu0 : (0 : Int) ≤ u := by omega
    have hu1 : (u : Int) ≤ 1000000 := by have := HU.out; have := HN.out; omega
    have HB := Lib.hid hb; clear hb
    have HE0 := fun h => HD.out.next h
    obtain ⟨c, hc⟩ : ∃ c, UInt8.ofNat (48 + u % 10) = c := ⟨_, rfl⟩
    rw [hc] at HE0 hcv
    have hlen := HD.out.len HN.out
    have hbx : Below w.heap.size w (wr.alloc (.cells #[.int .u8 (48 + (u : Int) % 10)] 5)) := below_step HB.out (below_new _ _)
    have HBX := Lib.hid hbx
    have e5 : ∀ W, (Op.stringOp .add ⟨#[c]⟩ ⟨l.toArray⟩).run Tryz.prog W = .ok (.string (⟨#[c]⟩ ++ ⟨l.toArray⟩)) W := fun W => run_string_add_sum _ _ _ (by show 1 + l.toArray.size ≤ _; simp; omega)
    have hs : (⟨#[c]⟩ ++ ⟨l.toArray⟩ : ByteArray) = ⟨(c :: l).toArray⟩ := by apply ByteArray.ext; simp
    have HS := Lib.hid hs
    clear hbx hs hc hlen
    by_cases hl : l = []
    · subst hl
      have HE := Lib.hid (HE0 (.inl rfl))
      clear HE0
      go_wp2_with fail
      go_roundw
      case rel => exact ⟨u / 10, [c], by simp, by rw [HS.out], HE, Lib.hid (by have := HU.out; omega), HBX.out⟩
      case measure => rw [HS.out, sizeOne_cons, sizeOne_nil]; simp [intOf]; omega
    · by_cases hu : 0 < u
      · have HE := Lib.hid (HE0 (.inr hu))
        clear HE0
        have hg : decide (0 < (u : Int)) = true := by simp; omega
        have hn1 : (⟨l.toArray⟩ : ByteArray).toList.isEmpty = false := by rw [Lib.toList_data]; simp [hl]
        go_wp2_with fail
        go_roundw
        case rel => exact ⟨u / 10, c :: l, by simp, by rw [HS.out], HE, Lib.hid (by have := HU.out; omega), HBX.out⟩
        case measure => rw [HS.out, sizeOne_cons]; simp [intOf]; omega
      · have hu' : u = 0 := by omega
        have hr := Dig.last (by have := HD.out; rwa [hu'] at this) hl
        have hg : decide (0 < u) = false := by simp; omega
        have HR := Lib.hid hr
        have hn1 : l.isEmpty = false := by simp [hl]
        clear hr HE0 hcv hu' hu
        go_wp2_with fail
        go_ret
        exact ⟨by rw [HR.out]; rfl, HB.out⟩

theorem refDigits_any (n : Int) (w : World) (h1 : 0 ≤ n) (h2 : n ≤ 1000000) :
    Calls Tryz.prog 33 #[.int .i64 n] w fun e w' => e = .returned (.string (bs (Lib.itoa n))) ∧ Below w.heap.size w w' := by
  have hp := refDigits_pos n.toNat w (by omega)
  rw [show ((n.toNat : Nat) : Int) = n by omega] at hp
  refine hp.mono ?_
  rintro e w1 ⟨rfl, g1⟩
  exact ⟨by unfold Lib.itoa; rw [if_neg (by omega)], g1⟩
end Go.Proofs.YtblnfcffalaeaaaGreatDoor

namespace Go.Proofs.YtblnfcffalaeaaaGreatDoor
open Go.RowKit Go.Shelf

theorem join_nums_len {L : List Int} (h : ∀ x ∈ L, 0 ≤ x ∧ x ≤ 1000000) (k : Nat) : (Lib.join ((L.map Lib.itoa).take k) [44]).length ≤ k * 8 := by
  have h1 := Fl.join_len_le (c := 44) (m := 7) (ws := (L.map Lib.itoa).take k) (fun w hw => by
    obtain ⟨x, hx, rfl⟩ := List.mem_map.1 (List.mem_of_mem_take hw)
    exact Fl.itoa_len10 (h x hx).1 (h x hx).2)
  rw [List.length_take] at h1
  exact Nat.le_trans h1 (Nat.mul_le_mul_right _ (Nat.min_le_left _ _))
theorem itoa_ne (n : Int) : Lib.itoa n ≠ [] := by
  intro h
  have := congrArg List.length h
  unfold Lib.itoa at this
  split at this
  · simp at this
  · have h2 := Lib.decDigits_length n.natAbs
    rw [show n.toNat = n.natAbs by omega] at this
    rw [this] at h2
    have := Lib.nDigits_pos n.natAbs
    simp at h2; omega
theorem join_nums_ne {L : List Int} (hL : L ≠ []) : Lib.join (L.map Lib.itoa) [44] ≠ [] := by
  cases L with
  | nil => exact absurd rfl hL
  | cons x L =>
    rw [List.map_cons, Lib.join_cons]
    intro h
    exact itoa_ne x (List.append_eq_nil_iff.1 h).1

set_option maxRecDepth 100000 in
set_option maxHeartbeats 2000000 in
theorem refList_any (L : List Int) (a : Option Addr) (c : Nat) (w : World) (h : IntA w a c L) (hb : ∀ x ∈ L, 0 ≤ x ∧ x ≤ 1000000) (hl : L.length ≤ 1000) :
    Calls Tryz.prog 48 #[.slice a L.length c] w fun e w' => e = .returned (.string (bs (Fl.nums L))) ∧ Below w.heap.size w w' := by
  have HA := Lib.hid h; have HBD := Lib.hid hb
  have hml : (L.map Lib.itoa).length = L.length := by simp
  clear h hb
  go_enter Tryz.func48, Tryz.ntmps48
  go_wp2_with fail
  go_loopg [3, 4] (L.length) (fun g s i wr => ∃ k : Nat, k ≤ L.length ∧ g = L.length - k ∧ s = .string (bs (Lib.join ((L.map Lib.itoa).take k) [44])) ∧ i = .int .i64 (k : Int) ∧ Hid (Below w.heap.size w wr))
  case atStart => exact ⟨0, by omega, by omega, rfl, rfl, Lib.hid (Below.refl _ _)⟩
  case round =>
    obtain ⟨k, hk, rfl, rfl, rfl, HW⟩ := hrel
    by_cases hlt : k < L.length
    · obtain ⟨b, off, rfl, hbl, hc⟩ := (HA.out.below HW.out).at (by omega)
      have c0 := hc k hlt
      have hx := HBD.out L[k] (List.getElem_mem hlt)
      have hsu := join_take_succ (L.map Lib.itoa) [44] k (by simpa using hlt)
      rw [List.getElem_map] at hsu
      have hjl := join_nums_len HBD.out k
      have hil := Fl.itoa_len10 hx.1 hx.2
      have HDg := Lib.hid (fun w => refDigits_any L[k] w hx.1 hx.2)
      clear hc hx
      generalize L[k] = x at *
      have e9 : IntKind.i64.wrap ((k : Int) + 1) = (k : Int) + 1 := IntWalk.i64_in _ (by omega)
      by_cases h0 : k = 0
      · rw [if_pos h0] at hsu
        have hk0 : ¬ 0 < k := by omega
        have hz : Lib.join ((L.map Lib.itoa).take k) [44] = [] := by rw [h0]; rfl
        have a2 := add_bs (Lib.join ((L.map Lib.itoa).take k) [44]) (Lib.itoa x) (by omega)
        rw [show Lib.join ((L.map Lib.itoa).take k) [44] ++ Lib.itoa x = Lib.join ((L.map Lib.itoa).take (k + 1)) [44] by rw [hsu, hz]; rfl] at a2
        clear hsu hjl hil hz h0
        generalize Lib.join ((L.map Lib.itoa).take k) [44] = s0 at *
        generalize hs2 : Lib.join ((L.map Lib.itoa).take (k + 1)) [44] = s2 at *
        have HS2 := Lib.hid hs2; clear hs2
        go_wp2_with fail
        refine (HDg.out _).mono ?_; rintro e w1 ⟨rfl, g1⟩
        have G1 := Lib.hid (below_step HW.out g1)
        clear g1
        go_wp2_with fail
        go_roundg (L.length - (k + 1))
        case rel => exact ⟨k + 1, hlt, rfl, by rw [HS2.out], by go_num, G1⟩
        case measure => omega
      · rw [if_neg h0] at hsu
        have hk0 : 0 < k := by omega
        have a1 := add_bs (Lib.join ((L.map Lib.itoa).take k) [44]) [44] (by simp; omega)
        have a2 := add_bs (Lib.join ((L.map Lib.itoa).take k) [44] ++ [44]) (Lib.itoa x) (by simp; omega)
        rw [← hsu] at a2
        clear hsu hjl hil
        generalize Lib.join ((L.map Lib.itoa).take k) [44] = s0 at *
        generalize s0 ++ [44] = s1 at *
        generalize hs2 : Lib.join ((L.map Lib.itoa).take (k + 1)) [44] = s2 at *
        have HS2 := Lib.hid hs2; clear hs2
        go_wp2_with fail
        refine (HDg.out _).mono ?_; rintro e w1 ⟨rfl, g1⟩
        have G1 := Lib.hid (below_step HW.out g1)
        clear g1
        go_wp2_with fail
        go_roundg (L.length - (k + 1))
        case rel => exact ⟨k + 1, hlt, rfl, by rw [HS2.out], by go_num, G1⟩
        case measure => omega
    · obtain rfl : k = L.length := by omega
      have htk : (L.map Lib.itoa).take L.length = L.map Lib.itoa := by rw [← hml, List.take_length]
      rw [htk]
      by_cases hL : L = []
      · have HN : Hid (Fl.nums L = [45]) := Lib.hid (by unfold Fl.nums; rw [if_pos hL])
        have hj : Lib.join (L.map Lib.itoa) [44] = [] := by rw [hL]; rfl
        rw [hj]
        clear htk hj hL
        go_wp2_with fail
        go_ret
        exact ⟨by rw [HN.out]; rfl, HW.out⟩
      · have HN : Hid (Fl.nums L = Lib.join (L.map Lib.itoa) [44]) := Lib.hid (by unfold Fl.nums; rw [if_neg hL])
        have hj := join_nums_ne hL
        generalize Lib.join (L.map Lib.itoa) [44] = s0 at *
        have hj1 : s0.isEmpty = false := by simpa using hj
        clear htk hL hj
        go_wp2_with fail
        go_ret
        exact ⟨by rw [HN.out]; rfl, HW.out⟩
end Go.Proofs.YtblnfcffalaeaaaGreatDoor

namespace Go.Proofs.YtblnfcffalaeaaaGreatDoor
open Go.RowKit Go.Shelf

set_option maxRecDepth 100000 in
set_option maxHeartbeats 4000000 in
theorem refWindowLine_any (v : Fl.Win) (w : World) (hv : Fl.vWin 40 v = true) :
    Calls Tryz.prog 26 #[winV v] w fun e w' => e = .returned (.string (bs (Lib.join (Fl.winWords v) [32]))) ∧ Below w.heap.size w w' := by
  have hv' := Fl.vWin_iff.1 hv
  obtain ⟨src, dst, limit⟩ := v
  simp only at hv'
  have I1 := Lib.hid (fun w => refDigits_any src w (by omega) (by omega))
  have I2 := Lib.hid (fun w => refDigits_any dst w (by omega) (by omega))
  have I3 := Lib.hid (fun w => refDigits_any limit w (by omega) (by omega))
  have n1 := Fl.itoa_len10 (n := src) (by omega) (by omega)
  have n2 := Fl.itoa_len10 (n := dst) (by omega) (by omega)
  have n3 := Fl.itoa_len10 (n := limit) (by omega) (by omega)
  have HB := Lib.hid (heap_alloc_new w (.cells #[.int .i64 src, .int .i64 dst, .int .i64 limit] 58))
  have L0 := Lib.hid (below_new w (.cells #[.int .i64 src, .int .i64 dst, .int .i64 limit] 58)).drew
  have hF : (((([119, 105, 110, 100, 111, 119, 32] ++ Lib.itoa src) ++ [32]) ++ Lib.itoa dst) ++ [32]) ++ Lib.itoa limit = Lib.join (Fl.winWords ⟨src, dst, limit⟩) [32] := by simp [Fl.winWords, Fl.wWindow, Lib.join_cons, Lib.joinTail]
  generalize Lib.join (Fl.winWords ⟨src, dst, limit⟩) [32] = FF at *
  generalize Lib.itoa src = d1 at *; generalize Lib.itoa dst = d2 at *; generalize Lib.itoa limit = d3 at *
  have a1 := add_bs ([119, 105, 110, 100, 111, 119, 32]) (d1) (by simp; omega)
  have a2 := add_bs ([119, 105, 110, 100, 111, 119, 32] ++ d1) ([32]) (by simp; omega)
  have a3 := add_bs (([119, 105, 110, 100, 111, 119, 32] ++ d1) ++ [32]) (d2) (by simp; omega)
  have a4 := add_bs ((([119, 105, 110, 100, 111, 119, 32] ++ d1) ++ [32]) ++ d2) ([32]) (by simp; omega)
  have a5 := add_bs (((([119, 105, 110, 100, 111, 119, 32] ++ d1) ++ [32]) ++ d2) ++ [32]) (d3) (by simp; omega)
  clear n1 n2 n3
  generalize [119, 105, 110, 100, 111, 119, 32] ++ d1 = u1 at *
  generalize u1 ++ [32] = u2 at *
  generalize u2 ++ d2 = u3 at *
  generalize u3 ++ [32] = u4 at *
  generalize u4 ++ d3 = u5 at *
  have HF := Lib.hid hF; clear hF
  unfold winV
  simp only
  clear hv hv'
  go_enter Tryz.func26, Tryz.ntmps26
  go_wp2_with fail
  generalize w.alloc (.cells #[.int .i64 src, .int .i64 dst, .int .i64 limit] 58) = w0 at *
  refine wp_region_held_drew (S := (fun v => v.heap[w.heap.size]? = some (.cells #[.int .i64 src, .int .i64 dst, .int .i64 limit] 58))) (by kernel_rfl) (HB.out) (fun hHeld => ?_)
  refine wpAnyH_take (i := 0) (oi := { dst := some 3, op := Op.fieldAddr 58 (Operand.tmp 1) 0, type := 0, pos := "ref.go:128", after := #[], guard := none }) (v := ?vw_0) rfl (by kernel_rfl) (by kernel_rfl) (by kernel_rfl) (fun _ _ _ h => h) (Or.inl ⟨by rfl, ?yw_0⟩) (by assumption) ?tw_0
  case yw_0 => (intro w hSw; try dsimp only at hSw); go_simp; try with_reducible rfl
  simp only [Act.put, List.setIfInBounds_toArray, List.set_cons_zero, List.set_cons_succ]
  refine wpAnyH_take (i := 1) (oi := { dst := some 4, op := Op.load 3 (Operand.tmp 3), type := 3, pos := "ref.go:128", after := #[{ on := 0, ground := Ground.data }], guard := none }) (v := ?vw_1) rfl (by kernel_rfl) (by kernel_rfl) (by kernel_rfl) (fun _ _ _ h => h) (Or.inl ⟨by rfl, ?yw_1⟩) (by assumption) ?tw_1
  case yw_1 => (intro w hSw; have h0 := box_cell hSw 0 (.int .i64 src) rfl); go_simp; try with_reducible rfl
  simp only [Act.put, List.setIfInBounds_toArray, List.set_cons_zero, List.set_cons_succ]
  refine wpAnyH_take (i := 5) (oi := { dst := some 8, op := Op.fieldAddr 58 (Operand.tmp 1) 1, type := 0, pos := "ref.go:128", after := #[], guard := none }) (v := ?vw_5) rfl (by kernel_rfl) (by kernel_rfl) (by kernel_rfl) (fun _ _ _ h => h) (Or.inl ⟨by rfl, ?yw_5⟩) (by assumption) ?tw_5
  case yw_5 => (intro w hSw; try dsimp only at hSw); go_simp; try with_reducible rfl
  simp only [Act.put, List.setIfInBounds_toArray, List.set_cons_zero, List.set_cons_succ]
  refine wpAnyH_take (i := 6) (oi := { dst := some 9, op := Op.load 3 (Operand.tmp 8), type := 3, pos := "ref.go:128", after := #[{ on := 5, ground := Ground.data }], guard := none }) (v := ?vw_6) rfl (by kernel_rfl) (by kernel_rfl) (by kernel_rfl) (fun _ _ _ h => h) (Or.inl ⟨by rfl, ?yw_6⟩) (by assumption) ?tw_6
  case yw_6 => (intro w hSw; have h0 := box_cell hSw 1 (.int .i64 dst) rfl); go_simp; try with_reducible rfl
  simp only [Act.put, List.setIfInBounds_toArray, List.set_cons_zero, List.set_cons_succ]
  refine wpAnyH_take (i := 10) (oi := { dst := some 13, op := Op.fieldAddr 58 (Operand.tmp 1) 2, type := 0, pos := "ref.go:128", after := #[], guard := none }) (v := ?vw_10) rfl (by kernel_rfl) (by kernel_rfl) (by kernel_rfl) (fun _ _ _ h => h) (Or.inl ⟨by rfl, ?yw_10⟩) (by assumption) ?tw_10
  case yw_10 => (intro w hSw; try dsimp only at hSw); go_simp; try with_reducible rfl
  simp only [Act.put, List.setIfInBounds_toArray, List.set_cons_zero, List.set_cons_succ]
  refine wpAnyH_take (i := 11) (oi := { dst := some 14, op := Op.load 3 (Operand.tmp 13), type := 3, pos := "ref.go:128", after := #[{ on := 10, ground := Ground.data }], guard := none }) (v := ?vw_11) rfl (by kernel_rfl) (by kernel_rfl) (by kernel_rfl) (fun _ _ _ h => h) (Or.inl ⟨by rfl, ?yw_11⟩) (by assumption) ?tw_11
  case yw_11 => (intro w hSw; have h0 := box_cell hSw 2 (.int .i64 limit) rfl); go_simp; try with_reducible rfl
  simp only [Act.put, List.setIfInBounds_toArray, List.set_cons_zero, List.set_cons_succ]
  refine wpAnyH_ready (rs := [2]) (by kernel_rfl) (by simp) ?_
  refine AllReadyH.cons (o := { dst := some 5, op := Op.call { callee := Callee.value (Operand.func 33), args := #[Operand.tmp 4], argTypes := #[3] }, type := 9, pos := "ref.go:128", after := #[{ on := 1, ground := Ground.data }], guard := none }) rfl (fun K hK => ?_) AllReadyH.nil
  go_simp
  refine (I1.out _).mono ?_; rintro e w1 ⟨rfl, g1⟩
  have L1 := Lib.hid (below_step L0.out g1)
  have hS1 := (g1.block w.heap.size (lt_of_block hHeld)).trans hHeld
  clear g1
  refine hK.out _ _ (hS1) (fun hHeld' => ?_)
  clear hK K hHeld
  have hHeld := hHeld'; clear hHeld'
  try simp only [Act.put, List.setIfInBounds_toArray, List.set_cons_zero, List.set_cons_succ]
  refine wpAnyH_take (i := 3) (oi := { dst := some 6, op := Op.binOp BinOp.add 9 (Operand.const (Value.string { data := #[119, 105, 110, 100, 111, 119, 32] })) (Operand.tmp 5) 9, type := 9, pos := "ref.go:128", after := #[{ on := 2, ground := Ground.data }], guard := none }) (v := ?vw_3) rfl (by kernel_rfl) (by kernel_rfl) (by kernel_rfl) (fun _ _ _ h => h) (Or.inl ⟨by rfl, ?yw_3⟩) (by assumption) ?tw_3
  case yw_3 => (intro w hSw; try dsimp only at hSw); go_simp; try with_reducible rfl
  simp only [Act.put, List.setIfInBounds_toArray, List.set_cons_zero, List.set_cons_succ]
  refine wpAnyH_take (i := 4) (oi := { dst := some 7, op := Op.binOp BinOp.add 9 (Operand.tmp 6) (Operand.const (Value.string { data := #[32] })) 9, type := 9, pos := "ref.go:128", after := #[{ on := 3, ground := Ground.data }], guard := none }) (v := ?vw_4) rfl (by kernel_rfl) (by kernel_rfl) (by kernel_rfl) (fun _ _ _ h => h) (Or.inl ⟨by rfl, ?yw_4⟩) (by assumption) ?tw_4
  case yw_4 => (intro w hSw; try dsimp only at hSw); go_simp; try with_reducible rfl
  simp only [Act.put, List.setIfInBounds_toArray, List.set_cons_zero, List.set_cons_succ]
  refine wpAnyH_ready (rs := [7]) (by kernel_rfl) (by simp) ?_
  refine AllReadyH.cons (o := { dst := some 10, op := Op.call { callee := Callee.value (Operand.func 33), args := #[Operand.tmp 9], argTypes := #[3] }, type := 9, pos := "ref.go:128", after := #[{ on := 6, ground := Ground.data }, { on := 2, ground := Ground.chain }], guard := none }) rfl (fun K hK => ?_) AllReadyH.nil
  go_simp
  refine (I2.out _).mono ?_; rintro e w2 ⟨rfl, g2⟩
  have L2 := Lib.hid (below_step L1.out g2)
  have hS2 := (g2.block w.heap.size (lt_of_block hHeld)).trans hHeld
  clear g2
  refine hK.out _ _ (hS2) (fun hHeld' => ?_)
  clear hK K hHeld
  have hHeld := hHeld'; clear hHeld'
  try simp only [Act.put, List.setIfInBounds_toArray, List.set_cons_zero, List.set_cons_succ]
  refine wpAnyH_take (i := 8) (oi := { dst := some 11, op := Op.binOp BinOp.add 9 (Operand.tmp 7) (Operand.tmp 10) 9, type := 9, pos := "ref.go:128", after := #[{ on := 4, ground := Ground.data }, { on := 7, ground := Ground.data }], guard := none }) (v := ?vw_8) rfl (by kernel_rfl) (by kernel_rfl) (by kernel_rfl) (fun _ _ _ h => h) (Or.inl ⟨by rfl, ?yw_8⟩) (by assumption) ?tw_8
  case yw_8 => (intro w hSw; try dsimp only at hSw); go_simp; try with_reducible rfl
  simp only [Act.put, List.setIfInBounds_toArray, List.set_cons_zero, List.set_cons_succ]
  refine wpAnyH_take (i := 9) (oi := { dst := some 12, op := Op.binOp BinOp.add 9 (Operand.tmp 11) (Operand.const (Value.string { data := #[32] })) 9, type := 9, pos := "ref.go:128", after := #[{ on := 8, ground := Ground.data }], guard := none }) (v := ?vw_9) rfl (by kernel_rfl) (by kernel_rfl) (by kernel_rfl) (fun _ _ _ h => h) (Or.inl ⟨by rfl, ?yw_9⟩) (by assumption) ?tw_9
  case yw_9 => (intro w hSw; try dsimp only at hSw); go_simp; try with_reducible rfl
  simp only [Act.put, List.setIfInBounds_toArray, List.set_cons_zero, List.set_cons_succ]
  refine wpAnyH_ready (rs := [12]) (by kernel_rfl) (by simp) ?_
  refine AllReadyH.cons (o := { dst := some 15, op := Op.call { callee := Callee.value (Operand.func 33), args := #[Operand.tmp 14], argTypes := #[3] }, type := 9, pos := "ref.go:128", after := #[{ on := 11, ground := Ground.data }, { on := 7, ground := Ground.chain }], guard := none }) rfl (fun K hK => ?_) AllReadyH.nil
  go_simp
  refine (I3.out _).mono ?_; rintro e w3 ⟨rfl, g3⟩
  have L3 := Lib.hid (below_step L2.out g3)
  have hS3 := (g3.block w.heap.size (lt_of_block hHeld)).trans hHeld
  clear g3
  refine hK.out _ _ (hS3) (fun hHeld' => ?_)
  clear hK K hHeld
  have hHeld := hHeld'; clear hHeld'
  try simp only [Act.put, List.setIfInBounds_toArray, List.set_cons_zero, List.set_cons_succ]
  refine wpAnyH_take (i := 13) (oi := { dst := some 16, op := Op.binOp BinOp.add 9 (Operand.tmp 12) (Operand.tmp 15) 9, type := 9, pos := "ref.go:128", after := #[{ on := 9, ground := Ground.data }, { on := 12, ground := Ground.data }], guard := none }) (v := ?vw_13) rfl (by kernel_rfl) (by kernel_rfl) (by kernel_rfl) (fun _ _ _ h => h) (Or.inl ⟨by rfl, ?yw_13⟩) (by assumption) ?tw_13
  case yw_13 => (intro w hSw; try dsimp only at hSw); go_simp; try with_reducible rfl
  simp only [Act.put, List.setIfInBounds_toArray, List.set_cons_zero, List.set_cons_succ]
  refine wpAnyH_take (i := 14) (oi := { dst := some 2, op := Op.assign (Operand.tmp 16), type := 9, pos := "ref.go:128", after := #[{ on := 13, ground := Ground.data }, { on := 12, ground := Ground.chain }, { on := 0, ground := Ground.phase }, { on := 1, ground := Ground.phase }, { on := 2, ground := Ground.phase }, { on := 3, ground := Ground.phase }, { on := 4, ground := Ground.phase }, { on := 5, ground := Ground.phase }, { on := 6, ground := Ground.phase }, { on := 7, ground := Ground.phase }, { on := 8, ground := Ground.phase }, { on := 9, ground := Ground.phase }, { on := 10, ground := Ground.phase }, { on := 11, ground := Ground.phase }, { on := 12, ground := Ground.phase }, { on := 13, ground := Ground.phase }], guard := none }) (v := ?vw_14) rfl (by kernel_rfl) (by kernel_rfl) (by kernel_rfl) (fun _ _ _ h => h) (Or.inl ⟨by rfl, ?yw_14⟩) (by assumption) ?tw_14
  case yw_14 => (intro w hSw; try dsimp only at hSw); go_simp; try with_reducible rfl
  simp only [Act.put, List.setIfInBounds_toArray, List.set_cons_zero, List.set_cons_succ]
  refine wpAnyH_done (by kernel_rfl) ?_ _
  clear hHeld
  go_wp2_with fail
  go_ret
  exact ⟨by rw [← HF.out]; rfl, L3.out⟩

set_option maxRecDepth 100000 in
set_option maxHeartbeats 8000000 in
theorem refStepLine_any (n : Int) (p : StepP) (w : World) (hp : p.ok w) (hs : Fl.StepOk 40 p.s) (hn : 0 ≤ n ∧ n ≤ 1000) :
    Calls Tryz.prog 25 #[.int .i64 n, p.v] w fun e w' => e = .returned (.string (bs (Lib.join (Fl.stepWords n p.s) [32]))) ∧ Below w.heap.size w w' := by
  have htl := Fl.asc_nonneg (by omega) hs.asct
  have hxl := Fl.asc_nonneg (by omega) hs.ascn
  obtain ⟨s, ta, tc, na, nc⟩ := p
  obtain ⟨tk, nk⟩ := hp
  simp only at htl hxl hs tk nk
  obtain ⟨r1, r2⟩ := hs.recipe; obtain ⟨e1, e2⟩ := hs.least; have e3 := hs.most
  have htl' : ∀ x ∈ s.tools, 0 ≤ x ∧ x ≤ 1000000 := fun x hx => ⟨(htl x hx).1, by have := (htl x hx).2; omega⟩
  have hxl' : ∀ x ∈ s.next, 0 ≤ x ∧ x ≤ 1000000 := fun x hx => ⟨(hxl x hx).1, by have := (hxl x hx).2; omega⟩
  have I1 := Lib.hid (fun w => refDigits_any n w (by omega) (by omega))
  have I2 := Lib.hid (fun w => refDigits_any s.recipe w (by omega) (by omega))
  have I3 := Lib.hid (fun w hA => refList_any s.tools ta tc w hA htl' (by have := hs.tools; omega))
  have I4 := Lib.hid (fun w => refDigits_any s.least w (by omega) (by omega))
  have I5 := Lib.hid (fun w => refDigits_any s.most w (by omega) (by omega))
  have I6 := Lib.hid (fun w hA => refList_any s.next na nc w hA hxl' (by have := hs.next; omega))
  have hbk := hs.back
  have n1 := Fl.itoa_len10 (n := n) (by omega) (by omega)
  have n2 := Fl.itoa_len10 (n := s.recipe) (by omega) (by omega)
  have n3 := Fl.nums_len htl' hs.tools.2
  have n4 := Fl.itoa_len10 (n := s.least) (by omega) (by omega)
  have n5 := Fl.itoa_len10 (n := s.most) (by omega) (by omega)
  have n6 := Fl.nums_len hxl' (by have := hs.next; omega)
  have I7 := Lib.hid (fun w (hb : ¬ s.back = -1) => refDigits_any s.back w (by omega) (by omega))
  have I8 := Lib.hid (fun w (hb : ¬ s.back = -1) => refDigits_any s.limit w (by omega) (by omega))
  have HN : Hid (¬ s.back = -1 → (Lib.itoa s.back).length ≤ 7 ∧ (Lib.itoa s.limit).length ≤ 7) := Lib.hid fun hb => ⟨Fl.itoa_len10 (by omega) (by omega), Fl.itoa_len10 (by omega) (by omega)⟩
  have HB := Lib.hid (heap_alloc_new w (.cells #[.int .i64 s.recipe, .slice ta s.tools.length tc, .int .i64 s.least, .int .i64 s.most, .slice na s.next.length nc, .int .i64 s.back, .int .i64 s.limit] 55))
  have L0 := Lib.hid (below_new w (.cells #[.int .i64 s.recipe, .slice ta s.tools.length tc, .int .i64 s.least, .int .i64 s.most, .slice na s.next.length nc, .int .i64 s.back, .int .i64 s.limit] 55)).drew
  have TK := Lib.hid tk; have NK := Lib.hid nk
  have HBK := Lib.hid hbk
  have hF : Lib.join (Fl.stepWords n s) [32] = if s.back = -1 then (((((((((([115, 116, 101, 112, 32] ++ Lib.itoa n) ++ [32, 114, 101, 99, 105, 112, 101, 32]) ++ Lib.itoa s.recipe) ++ [32, 116, 111, 111, 108, 115, 32]) ++ Fl.nums s.tools) ++ [32, 116, 105, 109, 101, 32]) ++ Lib.itoa s.least) ++ [46, 46]) ++ Lib.itoa s.most) ++ [32, 110, 101, 120, 116, 32]) ++ Fl.nums s.next else (((((((((((((([115, 116, 101, 112, 32] ++ Lib.itoa n) ++ [32, 114, 101, 99, 105, 112, 101, 32]) ++ Lib.itoa s.recipe) ++ [32, 116, 111, 111, 108, 115, 32]) ++ Fl.nums s.tools) ++ [32, 116, 105, 109, 101, 32]) ++ Lib.itoa s.least) ++ [46, 46]) ++ Lib.itoa s.most) ++ [32, 110, 101, 120, 116, 32]) ++ Fl.nums s.next) ++ [32, 98, 97, 99, 107, 32]) ++ Lib.itoa s.back) ++ [32, 108, 105, 109, 105, 116, 32]) ++ Lib.itoa s.limit := by
    unfold Fl.stepWords; split <;> simp [Fl.wStep, Fl.wRecipe, Fl.wTools, Fl.wTime, Fl.wNext, Fl.wBack, Fl.wLimit, Fl.span, Lib.join_cons, Lib.joinTail]
  generalize Lib.join (Fl.stepWords n s) [32] = FF at *
  generalize Lib.itoa n = d1 at *
  generalize Lib.itoa s.recipe = d2 at *
  generalize Fl.nums s.tools = d3 at *
  generalize Lib.itoa s.least = d4 at *
  generalize Lib.itoa s.most = d5 at *
  generalize Fl.nums s.next = d6 at *
  have a1 := add_bs ([115, 116, 101, 112, 32]) (d1) (by simp; omega)
  have a2 := add_bs ([115, 116, 101, 112, 32] ++ d1) ([32, 114, 101, 99, 105, 112, 101, 32]) (by simp; omega)
  have a3 := add_bs (([115, 116, 101, 112, 32] ++ d1) ++ [32, 114, 101, 99, 105, 112, 101, 32]) (d2) (by simp; omega)
  have a4 := add_bs ((([115, 116, 101, 112, 32] ++ d1) ++ [32, 114, 101, 99, 105, 112, 101, 32]) ++ d2) ([32, 116, 111, 111, 108, 115, 32]) (by simp; omega)
  have a5 := add_bs (((([115, 116, 101, 112, 32] ++ d1) ++ [32, 114, 101, 99, 105, 112, 101, 32]) ++ d2) ++ [32, 116, 111, 111, 108, 115, 32]) (d3) (by simp; omega)
  have a6 := add_bs ((((([115, 116, 101, 112, 32] ++ d1) ++ [32, 114, 101, 99, 105, 112, 101, 32]) ++ d2) ++ [32, 116, 111, 111, 108, 115, 32]) ++ d3) ([32, 116, 105, 109, 101, 32]) (by simp; omega)
  have a7 := add_bs (((((([115, 116, 101, 112, 32] ++ d1) ++ [32, 114, 101, 99, 105, 112, 101, 32]) ++ d2) ++ [32, 116, 111, 111, 108, 115, 32]) ++ d3) ++ [32, 116, 105, 109, 101, 32]) (d4) (by simp; omega)
  have a8 := add_bs ((((((([115, 116, 101, 112, 32] ++ d1) ++ [32, 114, 101, 99, 105, 112, 101, 32]) ++ d2) ++ [32, 116, 111, 111, 108, 115, 32]) ++ d3) ++ [32, 116, 105, 109, 101, 32]) ++ d4) ([46, 46]) (by simp; omega)
  have a9 := add_bs (((((((([115, 116, 101, 112, 32] ++ d1) ++ [32, 114, 101, 99, 105, 112, 101, 32]) ++ d2) ++ [32, 116, 111, 111, 108, 115, 32]) ++ d3) ++ [32, 116, 105, 109, 101, 32]) ++ d4) ++ [46, 46]) (d5) (by simp; omega)
  have a10 := add_bs ((((((((([115, 116, 101, 112, 32] ++ d1) ++ [32, 114, 101, 99, 105, 112, 101, 32]) ++ d2) ++ [32, 116, 111, 111, 108, 115, 32]) ++ d3) ++ [32, 116, 105, 109, 101, 32]) ++ d4) ++ [46, 46]) ++ d5) ([32, 110, 101, 120, 116, 32]) (by simp; omega)
  have a11 := add_bs (((((((((([115, 116, 101, 112, 32] ++ d1) ++ [32, 114, 101, 99, 105, 112, 101, 32]) ++ d2) ++ [32, 116, 111, 111, 108, 115, 32]) ++ d3) ++ [32, 116, 105, 109, 101, 32]) ++ d4) ++ [46, 46]) ++ d5) ++ [32, 110, 101, 120, 116, 32]) (d6) (by simp; omega)
  have hl11 : ((((((((((([115, 116, 101, 112, 32] ++ d1) ++ [32, 114, 101, 99, 105, 112, 101, 32]) ++ d2) ++ [32, 116, 111, 111, 108, 115, 32]) ++ d3) ++ [32, 116, 105, 109, 101, 32]) ++ d4) ++ [46, 46]) ++ d5) ++ [32, 110, 101, 120, 116, 32]) ++ d6).length ≤ 1000 := by simp; omega
  clear n1 n2 n3 n4 n5 n6
  generalize [115, 116, 101, 112, 32] ++ d1 = u1 at *
  generalize u1 ++ [32, 114, 101, 99, 105, 112, 101, 32] = u2 at *
  generalize u2 ++ d2 = u3 at *
  generalize u3 ++ [32, 116, 111, 111, 108, 115, 32] = u4 at *
  generalize u4 ++ d3 = u5 at *
  generalize u5 ++ [32, 116, 105, 109, 101, 32] = u6 at *
  generalize u6 ++ d4 = u7 at *
  generalize u7 ++ [46, 46] = u8 at *
  generalize u8 ++ d5 = u9 at *
  generalize u9 ++ [32, 110, 101, 120, 116, 32] = u10 at *
  generalize u10 ++ d6 = u11 at *
  have HF := Lib.hid hF; clear hF
  unfold StepP.v
  simp only
  clear tk nk hs htl hxl htl' hxl' hn r1 r2 e1 e2 e3 hbk
  go_enter Tryz.func25, Tryz.ntmps25
  go_wp2_with fail
  generalize w.alloc (.cells #[.int .i64 s.recipe, .slice ta s.tools.length tc, .int .i64 s.least, .int .i64 s.most, .slice na s.next.length nc, .int .i64 s.back, .int .i64 s.limit] 55) = w0 at *
  refine wp_region_held_drew (S := (fun v => v.heap[w.heap.size]? = some (.cells #[.int .i64 s.recipe, .slice ta s.tools.length tc, .int .i64 s.least, .int .i64 s.most, .slice na s.next.length nc, .int .i64 s.back, .int .i64 s.limit] 55))) (by kernel_rfl) (HB.out) (fun hHeld => ?_)
  refine wpAnyH_take (i := 0) (oi := { dst := some 6, op := Op.move (Operand.tmp 0), type := 3, pos := "ref.go:119", after := #[], guard := none }) (v := ?vs_0) rfl (by kernel_rfl) (by kernel_rfl) (by kernel_rfl) (fun _ _ _ h => h) (Or.inl ⟨by rfl, ?ys_0⟩) (by assumption) ?ts_0
  case ys_0 => (intro w hSw; try dsimp only at hSw); go_simp; try with_reducible rfl
  simp only [Act.put, List.setIfInBounds_toArray, List.set_cons_zero, List.set_cons_succ]
  refine wpAnyH_take (i := 4) (oi := { dst := some 10, op := Op.fieldAddr 55 (Operand.tmp 3) 0, type := 0, pos := "ref.go:119", after := #[], guard := none }) (v := ?vs_4) rfl (by kernel_rfl) (by kernel_rfl) (by kernel_rfl) (fun _ _ _ h => h) (Or.inl ⟨by rfl, ?ys_4⟩) (by assumption) ?ts_4
  case ys_4 => (intro w hSw; try dsimp only at hSw); go_simp; try with_reducible rfl
  simp only [Act.put, List.setIfInBounds_toArray, List.set_cons_zero, List.set_cons_succ]
  refine wpAnyH_take (i := 5) (oi := { dst := some 11, op := Op.load 3 (Operand.tmp 10), type := 3, pos := "ref.go:119", after := #[{ on := 4, ground := Ground.data }], guard := none }) (v := ?vs_5) rfl (by kernel_rfl) (by kernel_rfl) (by kernel_rfl) (fun _ _ _ h => h) (Or.inl ⟨by rfl, ?ys_5⟩) (by assumption) ?ts_5
  case ys_5 => (intro w hSw; have h0 := box_cell hSw 0 (.int .i64 s.recipe) rfl); go_simp; try with_reducible rfl
  simp only [Act.put, List.setIfInBounds_toArray, List.set_cons_zero, List.set_cons_succ]
  refine wpAnyH_take (i := 9) (oi := { dst := some 15, op := Op.fieldAddr 55 (Operand.tmp 3) 1, type := 0, pos := "ref.go:119", after := #[], guard := none }) (v := ?vs_9) rfl (by kernel_rfl) (by kernel_rfl) (by kernel_rfl) (fun _ _ _ h => h) (Or.inl ⟨by rfl, ?ys_9⟩) (by assumption) ?ts_9
  case ys_9 => (intro w hSw; try dsimp only at hSw); go_simp; try with_reducible rfl
  simp only [Act.put, List.setIfInBounds_toArray, List.set_cons_zero, List.set_cons_succ]
  refine wpAnyH_take (i := 10) (oi := { dst := some 16, op := Op.load 50 (Operand.tmp 15), type := 50, pos := "ref.go:119", after := #[{ on := 9, ground := Ground.data }], guard := none }) (v := ?vs_10) rfl (by kernel_rfl) (by kernel_rfl) (by kernel_rfl) (fun _ _ _ h => h) (Or.inl ⟨by rfl, ?ys_10⟩) (by assumption) ?ts_10
  case ys_10 => (intro w hSw; have h0 := box_cell hSw 1 (.slice ta s.tools.length tc) rfl); go_simp; try with_reducible rfl
  simp only [Act.put, List.setIfInBounds_toArray, List.set_cons_zero, List.set_cons_succ]
  refine wpAnyH_take (i := 14) (oi := { dst := some 20, op := Op.fieldAddr 55 (Operand.tmp 3) 2, type := 0, pos := "ref.go:119", after := #[], guard := none }) (v := ?vs_14) rfl (by kernel_rfl) (by kernel_rfl) (by kernel_rfl) (fun _ _ _ h => h) (Or.inl ⟨by rfl, ?ys_14⟩) (by assumption) ?ts_14
  case ys_14 => (intro w hSw; try dsimp only at hSw); go_simp; try with_reducible rfl
  simp only [Act.put, List.setIfInBounds_toArray, List.set_cons_zero, List.set_cons_succ]
  refine wpAnyH_take (i := 15) (oi := { dst := some 21, op := Op.load 3 (Operand.tmp 20), type := 3, pos := "ref.go:119", after := #[{ on := 14, ground := Ground.data }], guard := none }) (v := ?vs_15) rfl (by kernel_rfl) (by kernel_rfl) (by kernel_rfl) (fun _ _ _ h => h) (Or.inl ⟨by rfl, ?ys_15⟩) (by assumption) ?ts_15
  case ys_15 => (intro w hSw; have h0 := box_cell hSw 2 (.int .i64 s.least) rfl); go_simp; try with_reducible rfl
  simp only [Act.put, List.setIfInBounds_toArray, List.set_cons_zero, List.set_cons_succ]
  refine wpAnyH_take (i := 19) (oi := { dst := some 25, op := Op.fieldAddr 55 (Operand.tmp 3) 3, type := 0, pos := "ref.go:119", after := #[], guard := none }) (v := ?vs_19) rfl (by kernel_rfl) (by kernel_rfl) (by kernel_rfl) (fun _ _ _ h => h) (Or.inl ⟨by rfl, ?ys_19⟩) (by assumption) ?ts_19
  case ys_19 => (intro w hSw; try dsimp only at hSw); go_simp; try with_reducible rfl
  simp only [Act.put, List.setIfInBounds_toArray, List.set_cons_zero, List.set_cons_succ]
  refine wpAnyH_take (i := 20) (oi := { dst := some 26, op := Op.load 3 (Operand.tmp 25), type := 3, pos := "ref.go:119", after := #[{ on := 19, ground := Ground.data }], guard := none }) (v := ?vs_20) rfl (by kernel_rfl) (by kernel_rfl) (by kernel_rfl) (fun _ _ _ h => h) (Or.inl ⟨by rfl, ?ys_20⟩) (by assumption) ?ts_20
  case ys_20 => (intro w hSw; have h0 := box_cell hSw 3 (.int .i64 s.most) rfl); go_simp; try with_reducible rfl
  simp only [Act.put, List.setIfInBounds_toArray, List.set_cons_zero, List.set_cons_succ]
  refine wpAnyH_take (i := 24) (oi := { dst := some 30, op := Op.fieldAddr 55 (Operand.tmp 3) 4, type := 0, pos := "ref.go:119", after := #[], guard := none }) (v := ?vs_24) rfl (by kernel_rfl) (by kernel_rfl) (by kernel_rfl) (fun _ _ _ h => h) (Or.inl ⟨by rfl, ?ys_24⟩) (by assumption) ?ts_24
  case ys_24 => (intro w hSw; try dsimp only at hSw); go_simp; try with_reducible rfl
  simp only [Act.put, List.setIfInBounds_toArray, List.set_cons_zero, List.set_cons_succ]
  refine wpAnyH_take (i := 25) (oi := { dst := some 31, op := Op.load 50 (Operand.tmp 30), type := 50, pos := "ref.go:119", after := #[{ on := 24, ground := Ground.data }], guard := none }) (v := ?vs_25) rfl (by kernel_rfl) (by kernel_rfl) (by kernel_rfl) (fun _ _ _ h => h) (Or.inl ⟨by rfl, ?ys_25⟩) (by assumption) ?ts_25
  case ys_25 => (intro w hSw; have h0 := box_cell hSw 4 (.slice na s.next.length nc) rfl); go_simp; try with_reducible rfl
  simp only [Act.put, List.setIfInBounds_toArray, List.set_cons_zero, List.set_cons_succ]
  refine wpAnyH_ready (rs := [1]) (by kernel_rfl) (by simp) ?_
  refine AllReadyH.cons (o := { dst := some 7, op := Op.call { callee := Callee.value (Operand.func 33), args := #[Operand.tmp 6], argTypes := #[3] }, type := 9, pos := "ref.go:119", after := #[{ on := 0, ground := Ground.data }], guard := none }) rfl (fun K hK => ?_) AllReadyH.nil
  go_simp
  refine (I1.out _).mono ?_; rintro e w1 ⟨rfl, g1⟩
  have L1 := Lib.hid (below_step L0.out g1)
  have hS1 := (g1.block w.heap.size (lt_of_block hHeld)).trans hHeld
  clear g1
  refine hK.out _ _ (hS1) (fun hHeld' => ?_)
  clear hK K hHeld
  have hHeld := hHeld'; clear hHeld'
  try simp only [Act.put, List.setIfInBounds_toArray, List.set_cons_zero, List.set_cons_succ]
  refine wpAnyH_take (i := 2) (oi := { dst := some 8, op := Op.binOp BinOp.add 9 (Operand.const (Value.string { data := #[115, 116, 101, 112, 32] })) (Operand.tmp 7) 9, type := 9, pos := "ref.go:119", after := #[{ on := 1, ground := Ground.data }], guard := none }) (v := ?vs_2) rfl (by kernel_rfl) (by kernel_rfl) (by kernel_rfl) (fun _ _ _ h => h) (Or.inl ⟨by rfl, ?ys_2⟩) (by assumption) ?ts_2
  case ys_2 => (intro w hSw; try dsimp only at hSw); go_simp; try with_reducible rfl
  simp only [Act.put, List.setIfInBounds_toArray, List.set_cons_zero, List.set_cons_succ]
  refine wpAnyH_take (i := 3) (oi := { dst := some 9, op := Op.binOp BinOp.add 9 (Operand.tmp 8) (Operand.const (Value.string { data := #[32, 114, 101, 99, 105, 112, 101, 32] })) 9, type := 9, pos := "ref.go:119", after := #[{ on := 2, ground := Ground.data }], guard := none }) (v := ?vs_3) rfl (by kernel_rfl) (by kernel_rfl) (by kernel_rfl) (fun _ _ _ h => h) (Or.inl ⟨by rfl, ?ys_3⟩) (by assumption) ?ts_3
  case ys_3 => (intro w hSw; try dsimp only at hSw); go_simp; try with_reducible rfl
  simp only [Act.put, List.setIfInBounds_toArray, List.set_cons_zero, List.set_cons_succ]
  refine wpAnyH_ready (rs := [6]) (by kernel_rfl) (by simp) ?_
  refine AllReadyH.cons (o := { dst := some 12, op := Op.call { callee := Callee.value (Operand.func 33), args := #[Operand.tmp 11], argTypes := #[3] }, type := 9, pos := "ref.go:119", after := #[{ on := 5, ground := Ground.data }, { on := 1, ground := Ground.chain }], guard := none }) rfl (fun K hK => ?_) AllReadyH.nil
  go_simp
  refine (I2.out _).mono ?_; rintro e w2 ⟨rfl, g2⟩
  have L2 := Lib.hid (below_step L1.out g2)
  have hS2 := (g2.block w.heap.size (lt_of_block hHeld)).trans hHeld
  clear g2
  refine hK.out _ _ (hS2) (fun hHeld' => ?_)
  clear hK K hHeld
  have hHeld := hHeld'; clear hHeld'
  try simp only [Act.put, List.setIfInBounds_toArray, List.set_cons_zero, List.set_cons_succ]
  refine wpAnyH_take (i := 7) (oi := { dst := some 13, op := Op.binOp BinOp.add 9 (Operand.tmp 9) (Operand.tmp 12) 9, type := 9, pos := "ref.go:119", after := #[{ on := 3, ground := Ground.data }, { on := 6, ground := Ground.data }], guard := none }) (v := ?vs_7) rfl (by kernel_rfl) (by kernel_rfl) (by kernel_rfl) (fun _ _ _ h => h) (Or.inl ⟨by rfl, ?ys_7⟩) (by assumption) ?ts_7
  case ys_7 => (intro w hSw; try dsimp only at hSw); go_simp; try with_reducible rfl
  simp only [Act.put, List.setIfInBounds_toArray, List.set_cons_zero, List.set_cons_succ]
  refine wpAnyH_take (i := 8) (oi := { dst := some 14, op := Op.binOp BinOp.add 9 (Operand.tmp 13) (Operand.const (Value.string { data := #[32, 116, 111, 111, 108, 115, 32] })) 9, type := 9, pos := "ref.go:119", after := #[{ on := 7, ground := Ground.data }], guard := none }) (v := ?vs_8) rfl (by kernel_rfl) (by kernel_rfl) (by kernel_rfl) (fun _ _ _ h => h) (Or.inl ⟨by rfl, ?ys_8⟩) (by assumption) ?ts_8
  case ys_8 => (intro w hSw; try dsimp only at hSw); go_simp; try with_reducible rfl
  simp only [Act.put, List.setIfInBounds_toArray, List.set_cons_zero, List.set_cons_succ]
  refine wpAnyH_ready (rs := [11]) (by kernel_rfl) (by simp) ?_
  refine AllReadyH.cons (o := { dst := some 17, op := Op.call { callee := Callee.value (Operand.func 48), args := #[Operand.tmp 16], argTypes := #[50] }, type := 9, pos := "ref.go:119", after := #[{ on := 10, ground := Ground.data }, { on := 6, ground := Ground.chain }], guard := none }) rfl (fun K hK => ?_) AllReadyH.nil
  go_simp
  refine (I3.out _ (TK.out.below L2.out)).mono ?_; rintro e w3 ⟨rfl, g3⟩
  have L3 := Lib.hid (below_step L2.out g3)
  have hS3 := (g3.block w.heap.size (lt_of_block hHeld)).trans hHeld
  clear g3
  refine hK.out _ _ (hS3) (fun hHeld' => ?_)
  clear hK K hHeld
  have hHeld := hHeld'; clear hHeld'
  try simp only [Act.put, List.setIfInBounds_toArray, List.set_cons_zero, List.set_cons_succ]
  refine wpAnyH_take (i := 12) (oi := { dst := some 18, op := Op.binOp BinOp.add 9 (Operand.tmp 14) (Operand.tmp 17) 9, type := 9, pos := "ref.go:119", after := #[{ on := 8, ground := Ground.data }, { on := 11, ground := Ground.data }], guard := none }) (v := ?vs_12) rfl (by kernel_rfl) (by kernel_rfl) (by kernel_rfl) (fun _ _ _ h => h) (Or.inl ⟨by rfl, ?ys_12⟩) (by assumption) ?ts_12
  case ys_12 => (intro w hSw; try dsimp only at hSw); go_simp; try with_reducible rfl
  simp only [Act.put, List.setIfInBounds_toArray, List.set_cons_zero, List.set_cons_succ]
  refine wpAnyH_take (i := 13) (oi := { dst := some 19, op := Op.binOp BinOp.add 9 (Operand.tmp 18) (Operand.const (Value.string { data := #[32, 116, 105, 109, 101, 32] })) 9, type := 9, pos := "ref.go:119", after := #[{ on := 12, ground := Ground.data }], guard := none }) (v := ?vs_13) rfl (by kernel_rfl) (by kernel_rfl) (by kernel_rfl) (fun _ _ _ h => h) (Or.inl ⟨by rfl, ?ys_13⟩) (by assumption) ?ts_13
  case ys_13 => (intro w hSw; try dsimp only at hSw); go_simp; try with_reducible rfl
  simp only [Act.put, List.setIfInBounds_toArray, List.set_cons_zero, List.set_cons_succ]
  refine wpAnyH_ready (rs := [16]) (by kernel_rfl) (by simp) ?_
  refine AllReadyH.cons (o := { dst := some 22, op := Op.call { callee := Callee.value (Operand.func 33), args := #[Operand.tmp 21], argTypes := #[3] }, type := 9, pos := "ref.go:119", after := #[{ on := 15, ground := Ground.data }, { on := 11, ground := Ground.chain }], guard := none }) rfl (fun K hK => ?_) AllReadyH.nil
  go_simp
  refine (I4.out _).mono ?_; rintro e w4 ⟨rfl, g4⟩
  have L4 := Lib.hid (below_step L3.out g4)
  have hS4 := (g4.block w.heap.size (lt_of_block hHeld)).trans hHeld
  clear g4
  refine hK.out _ _ (hS4) (fun hHeld' => ?_)
  clear hK K hHeld
  have hHeld := hHeld'; clear hHeld'
  try simp only [Act.put, List.setIfInBounds_toArray, List.set_cons_zero, List.set_cons_succ]
  refine wpAnyH_take (i := 17) (oi := { dst := some 23, op := Op.binOp BinOp.add 9 (Operand.tmp 19) (Operand.tmp 22) 9, type := 9, pos := "ref.go:119", after := #[{ on := 13, ground := Ground.data }, { on := 16, ground := Ground.data }], guard := none }) (v := ?vs_17) rfl (by kernel_rfl) (by kernel_rfl) (by kernel_rfl) (fun _ _ _ h => h) (Or.inl ⟨by rfl, ?ys_17⟩) (by assumption) ?ts_17
  case ys_17 => (intro w hSw; try dsimp only at hSw); go_simp; try with_reducible rfl
  simp only [Act.put, List.setIfInBounds_toArray, List.set_cons_zero, List.set_cons_succ]
  refine wpAnyH_take (i := 18) (oi := { dst := some 24, op := Op.binOp BinOp.add 9 (Operand.tmp 23) (Operand.const (Value.string { data := #[46, 46] })) 9, type := 9, pos := "ref.go:119", after := #[{ on := 17, ground := Ground.data }], guard := none }) (v := ?vs_18) rfl (by kernel_rfl) (by kernel_rfl) (by kernel_rfl) (fun _ _ _ h => h) (Or.inl ⟨by rfl, ?ys_18⟩) (by assumption) ?ts_18
  case ys_18 => (intro w hSw; try dsimp only at hSw); go_simp; try with_reducible rfl
  simp only [Act.put, List.setIfInBounds_toArray, List.set_cons_zero, List.set_cons_succ]
  refine wpAnyH_ready (rs := [21]) (by kernel_rfl) (by simp) ?_
  refine AllReadyH.cons (o := { dst := some 27, op := Op.call { callee := Callee.value (Operand.func 33), args := #[Operand.tmp 26], argTypes := #[3] }, type := 9, pos := "ref.go:119", after := #[{ on := 20, ground := Ground.data }, { on := 16, ground := Ground.chain }], guard := none }) rfl (fun K hK => ?_) AllReadyH.nil
  go_simp
  refine (I5.out _).mono ?_; rintro e w5 ⟨rfl, g5⟩
  have L5 := Lib.hid (below_step L4.out g5)
  have hS5 := (g5.block w.heap.size (lt_of_block hHeld)).trans hHeld
  clear g5
  refine hK.out _ _ (hS5) (fun hHeld' => ?_)
  clear hK K hHeld
  have hHeld := hHeld'; clear hHeld'
  try simp only [Act.put, List.setIfInBounds_toArray, List.set_cons_zero, List.set_cons_succ]
  refine wpAnyH_take (i := 22) (oi := { dst := some 28, op := Op.binOp BinOp.add 9 (Operand.tmp 24) (Operand.tmp 27) 9, type := 9, pos := "ref.go:119", after := #[{ on := 18, ground := Ground.data }, { on := 21, ground := Ground.data }], guard := none }) (v := ?vs_22) rfl (by kernel_rfl) (by kernel_rfl) (by kernel_rfl) (fun _ _ _ h => h) (Or.inl ⟨by rfl, ?ys_22⟩) (by assumption) ?ts_22
  case ys_22 => (intro w hSw; try dsimp only at hSw); go_simp; try with_reducible rfl
  simp only [Act.put, List.setIfInBounds_toArray, List.set_cons_zero, List.set_cons_succ]
  refine wpAnyH_take (i := 23) (oi := { dst := some 29, op := Op.binOp BinOp.add 9 (Operand.tmp 28) (Operand.const (Value.string { data := #[32, 110, 101, 120, 116, 32] })) 9, type := 9, pos := "ref.go:119", after := #[{ on := 22, ground := Ground.data }], guard := none }) (v := ?vs_23) rfl (by kernel_rfl) (by kernel_rfl) (by kernel_rfl) (fun _ _ _ h => h) (Or.inl ⟨by rfl, ?ys_23⟩) (by assumption) ?ts_23
  case ys_23 => (intro w hSw; try dsimp only at hSw); go_simp; try with_reducible rfl
  simp only [Act.put, List.setIfInBounds_toArray, List.set_cons_zero, List.set_cons_succ]
  refine wpAnyH_ready (rs := [26]) (by kernel_rfl) (by simp) ?_
  refine AllReadyH.cons (o := { dst := some 32, op := Op.call { callee := Callee.value (Operand.func 48), args := #[Operand.tmp 31], argTypes := #[50] }, type := 9, pos := "ref.go:119", after := #[{ on := 25, ground := Ground.data }, { on := 21, ground := Ground.chain }], guard := none }) rfl (fun K hK => ?_) AllReadyH.nil
  go_simp
  refine (I6.out _ (NK.out.below L5.out)).mono ?_; rintro e w6 ⟨rfl, g6⟩
  have L6 := Lib.hid (below_step L5.out g6)
  have hS6 := (g6.block w.heap.size (lt_of_block hHeld)).trans hHeld
  clear g6
  refine hK.out _ _ (hS6) (fun hHeld' => ?_)
  clear hK K hHeld
  have hHeld := hHeld'; clear hHeld'
  try simp only [Act.put, List.setIfInBounds_toArray, List.set_cons_zero, List.set_cons_succ]
  refine wpAnyH_take (i := 27) (oi := { dst := some 33, op := Op.binOp BinOp.add 9 (Operand.tmp 29) (Operand.tmp 32) 9, type := 9, pos := "ref.go:119", after := #[{ on := 23, ground := Ground.data }, { on := 26, ground := Ground.data }], guard := none }) (v := ?vs_27) rfl (by kernel_rfl) (by kernel_rfl) (by kernel_rfl) (fun _ _ _ h => h) (Or.inl ⟨by rfl, ?ys_27⟩) (by assumption) ?ts_27
  case ys_27 => (intro w hSw; try dsimp only at hSw); go_simp; try with_reducible rfl
  simp only [Act.put, List.setIfInBounds_toArray, List.set_cons_zero, List.set_cons_succ]
  refine wpAnyH_take (i := 28) (oi := { dst := some 5, op := Op.assign (Operand.tmp 33), type := 9, pos := "ref.go:119", after := #[{ on := 27, ground := Ground.data }, { on := 26, ground := Ground.chain }, { on := 0, ground := Ground.phase }, { on := 1, ground := Ground.phase }, { on := 2, ground := Ground.phase }, { on := 3, ground := Ground.phase }, { on := 4, ground := Ground.phase }, { on := 5, ground := Ground.phase }, { on := 6, ground := Ground.phase }, { on := 7, ground := Ground.phase }, { on := 8, ground := Ground.phase }, { on := 9, ground := Ground.phase }, { on := 10, ground := Ground.phase }, { on := 11, ground := Ground.phase }, { on := 12, ground := Ground.phase }, { on := 13, ground := Ground.phase }, { on := 14, ground := Ground.phase }, { on := 15, ground := Ground.phase }, { on := 16, ground := Ground.phase }, { on := 17, ground := Ground.phase }, { on := 18, ground := Ground.phase }, { on := 19, ground := Ground.phase }, { on := 20, ground := Ground.phase }, { on := 21, ground := Ground.phase }, { on := 22, ground := Ground.phase }, { on := 23, ground := Ground.phase }, { on := 24, ground := Ground.phase }, { on := 25, ground := Ground.phase }, { on := 26, ground := Ground.phase }, { on := 27, ground := Ground.phase }], guard := none }) (v := ?vs_28) rfl (by kernel_rfl) (by kernel_rfl) (by kernel_rfl) (fun _ _ _ h => h) (Or.inl ⟨by rfl, ?ys_28⟩) (by assumption) ?ts_28
  case ys_28 => (intro w hSw; try dsimp only at hSw); go_simp; try with_reducible rfl
  simp only [Act.put, List.setIfInBounds_toArray, List.set_cons_zero, List.set_cons_succ]
  refine wpAnyH_done (by kernel_rfl) ?_ _
  have HH := Lib.hid hHeld; clear hHeld
  have c5 := box_cell HH.out 5 (.int .i64 s.back) rfl
  have c6 := box_cell HH.out 6 (.int .i64 s.limit) rfl
  by_cases hb : s.back = -1
  · have h5 : ¬ 0 ≤ s.back := by omega
    have HR := Lib.hid (HF.out.trans (if_pos hb))
    clear hb I7 I8 HN HF
    go_wp2_with fail
    go_ret
    exact ⟨by rw [HR.out]; rfl, L6.out⟩
  · have h5 : 0 ≤ s.back := by rcases HBK.out with h | h <;> omega
    obtain ⟨m7, m8⟩ := HN.out hb
    have HR := Lib.hid (HF.out.trans (if_neg hb))
    have J7 := Lib.hid (fun w => I7.out w hb); have J8 := Lib.hid (fun w => I8.out w hb)
    clear hb I7 I8 HN HF HBK
    generalize Lib.itoa s.back = d7 at *; generalize Lib.itoa s.limit = d8 at *
    have a21 := add_bs (u11) ([32, 98, 97, 99, 107, 32]) (by simp; omega)
    have a22 := add_bs (u11 ++ [32, 98, 97, 99, 107, 32]) (d7) (by simp; omega)
    have a23 := add_bs ((u11 ++ [32, 98, 97, 99, 107, 32]) ++ d7) ([32, 108, 105, 109, 105, 116, 32]) (by simp; omega)
    have a24 := add_bs (((u11 ++ [32, 98, 97, 99, 107, 32]) ++ d7) ++ [32, 108, 105, 109, 105, 116, 32]) (d8) (by simp; omega)
    clear m7 m8 hl11
    generalize u11 ++ [32, 98, 97, 99, 107, 32] = u21 at *
    generalize u21 ++ d7 = u22 at *
    generalize u22 ++ [32, 108, 105, 109, 105, 116, 32] = u23 at *
    generalize u23 ++ d8 = u24 at *
    go_upto_region 3 with (fail)
    have L7 := Lib.hid L6.out.drew
    clear c5 c6
    refine wp_region_held_drew (S := (fun v => v.heap[w.heap.size]? = some (.cells #[.int .i64 s.recipe, .slice ta s.tools.length tc, .int .i64 s.least, .int .i64 s.most, .slice na s.next.length nc, .int .i64 s.back, .int .i64 s.limit] 55))) (by kernel_rfl) (HH.out) (fun hHeld => ?_)
    refine wpAnyH_take (i := 0) (oi := { dst := some 37, op := Op.move (Operand.tmp 5), type := 9, pos := "ref.go:121", after := #[], guard := none }) (v := ?vb_0) rfl (by kernel_rfl) (by kernel_rfl) (by kernel_rfl) (fun _ _ _ h => h) (Or.inl ⟨by rfl, ?yb_0⟩) (by assumption) ?tb_0
    case yb_0 => (intro w hSw; try dsimp only at hSw); go_simp; try with_reducible rfl
    simp only [Act.put, List.setIfInBounds_toArray, List.set_cons_zero, List.set_cons_succ]
    refine wpAnyH_take (i := 1) (oi := { dst := some 38, op := Op.binOp BinOp.add 9 (Operand.tmp 37) (Operand.const (Value.string { data := #[32, 98, 97, 99, 107, 32] })) 9, type := 9, pos := "ref.go:121", after := #[{ on := 0, ground := Ground.data }], guard := none }) (v := ?vb_1) rfl (by kernel_rfl) (by kernel_rfl) (by kernel_rfl) (fun _ _ _ h => h) (Or.inl ⟨by rfl, ?yb_1⟩) (by assumption) ?tb_1
    case yb_1 => (intro w hSw; try dsimp only at hSw); go_simp; try with_reducible rfl
    simp only [Act.put, List.setIfInBounds_toArray, List.set_cons_zero, List.set_cons_succ]
    refine wpAnyH_take (i := 2) (oi := { dst := some 39, op := Op.fieldAddr 55 (Operand.tmp 3) 5, type := 0, pos := "ref.go:121", after := #[], guard := none }) (v := ?vb_2) rfl (by kernel_rfl) (by kernel_rfl) (by kernel_rfl) (fun _ _ _ h => h) (Or.inl ⟨by rfl, ?yb_2⟩) (by assumption) ?tb_2
    case yb_2 => (intro w hSw; try dsimp only at hSw); go_simp; try with_reducible rfl
    simp only [Act.put, List.setIfInBounds_toArray, List.set_cons_zero, List.set_cons_succ]
    refine wpAnyH_take (i := 3) (oi := { dst := some 40, op := Op.load 3 (Operand.tmp 39), type := 3, pos := "ref.go:121", after := #[{ on := 2, ground := Ground.data }], guard := none }) (v := ?vb_3) rfl (by kernel_rfl) (by kernel_rfl) (by kernel_rfl) (fun _ _ _ h => h) (Or.inl ⟨by rfl, ?yb_3⟩) (by assumption) ?tb_3
    case yb_3 => (intro w hSw; have h0 := box_cell hSw 5 (.int .i64 s.back) rfl); go_simp; try with_reducible rfl
    simp only [Act.put, List.setIfInBounds_toArray, List.set_cons_zero, List.set_cons_succ]
    refine wpAnyH_take (i := 7) (oi := { dst := some 44, op := Op.fieldAddr 55 (Operand.tmp 3) 6, type := 0, pos := "ref.go:121", after := #[], guard := none }) (v := ?vb_7) rfl (by kernel_rfl) (by kernel_rfl) (by kernel_rfl) (fun _ _ _ h => h) (Or.inl ⟨by rfl, ?yb_7⟩) (by assumption) ?tb_7
    case yb_7 => (intro w hSw; try dsimp only at hSw); go_simp; try with_reducible rfl
    simp only [Act.put, List.setIfInBounds_toArray, List.set_cons_zero, List.set_cons_succ]
    refine wpAnyH_take (i := 8) (oi := { dst := some 45, op := Op.load 3 (Operand.tmp 44), type := 3, pos := "ref.go:121", after := #[{ on := 7, ground := Ground.data }], guard := none }) (v := ?vb_8) rfl (by kernel_rfl) (by kernel_rfl) (by kernel_rfl) (fun _ _ _ h => h) (Or.inl ⟨by rfl, ?yb_8⟩) (by assumption) ?tb_8
    case yb_8 => (intro w hSw; have h0 := box_cell hSw 6 (.int .i64 s.limit) rfl); go_simp; try with_reducible rfl
    simp only [Act.put, List.setIfInBounds_toArray, List.set_cons_zero, List.set_cons_succ]
    refine wpAnyH_ready (rs := [4]) (by kernel_rfl) (by simp) ?_
    refine AllReadyH.cons (o := { dst := some 41, op := Op.call { callee := Callee.value (Operand.func 33), args := #[Operand.tmp 40], argTypes := #[3] }, type := 9, pos := "ref.go:121", after := #[{ on := 3, ground := Ground.data }], guard := none }) rfl (fun K hK => ?_) AllReadyH.nil
    go_simp
    refine (J7.out _).mono ?_; rintro e w8 ⟨rfl, g8⟩
    have L8 := Lib.hid (below_step L7.out g8)
    have hS8 := (g8.block w.heap.size (lt_of_block hHeld)).trans hHeld
    clear g8
    refine hK.out _ _ (hS8) (fun hHeld' => ?_)
    clear hK K hHeld
    have hHeld := hHeld'; clear hHeld'
    try simp only [Act.put, List.setIfInBounds_toArray, List.set_cons_zero, List.set_cons_succ]
    refine wpAnyH_take (i := 5) (oi := { dst := some 42, op := Op.binOp BinOp.add 9 (Operand.tmp 38) (Operand.tmp 41) 9, type := 9, pos := "ref.go:121", after := #[{ on := 1, ground := Ground.data }, { on := 4, ground := Ground.data }], guard := none }) (v := ?vb_5) rfl (by kernel_rfl) (by kernel_rfl) (by kernel_rfl) (fun _ _ _ h => h) (Or.inl ⟨by rfl, ?yb_5⟩) (by assumption) ?tb_5
    case yb_5 => (intro w hSw; try dsimp only at hSw); go_simp; try with_reducible rfl
    simp only [Act.put, List.setIfInBounds_toArray, List.set_cons_zero, List.set_cons_succ]
    refine wpAnyH_take (i := 6) (oi := { dst := some 43, op := Op.binOp BinOp.add 9 (Operand.tmp 42) (Operand.const (Value.string { data := #[32, 108, 105, 109, 105, 116, 32] })) 9, type := 9, pos := "ref.go:121", after := #[{ on := 5, ground := Ground.data }], guard := none }) (v := ?vb_6) rfl (by kernel_rfl) (by kernel_rfl) (by kernel_rfl) (fun _ _ _ h => h) (Or.inl ⟨by rfl, ?yb_6⟩) (by assumption) ?tb_6
    case yb_6 => (intro w hSw; try dsimp only at hSw); go_simp; try with_reducible rfl
    simp only [Act.put, List.setIfInBounds_toArray, List.set_cons_zero, List.set_cons_succ]
    refine wpAnyH_ready (rs := [9]) (by kernel_rfl) (by simp) ?_
    refine AllReadyH.cons (o := { dst := some 46, op := Op.call { callee := Callee.value (Operand.func 33), args := #[Operand.tmp 45], argTypes := #[3] }, type := 9, pos := "ref.go:121", after := #[{ on := 8, ground := Ground.data }, { on := 4, ground := Ground.chain }], guard := none }) rfl (fun K hK => ?_) AllReadyH.nil
    go_simp
    refine (J8.out _).mono ?_; rintro e w9 ⟨rfl, g9⟩
    have L9 := Lib.hid (below_step L8.out g9)
    have hS9 := (g9.block w.heap.size (lt_of_block hHeld)).trans hHeld
    clear g9
    refine hK.out _ _ (hS9) (fun hHeld' => ?_)
    clear hK K hHeld
    have hHeld := hHeld'; clear hHeld'
    try simp only [Act.put, List.setIfInBounds_toArray, List.set_cons_zero, List.set_cons_succ]
    refine wpAnyH_take (i := 10) (oi := { dst := some 47, op := Op.binOp BinOp.add 9 (Operand.tmp 43) (Operand.tmp 46) 9, type := 9, pos := "ref.go:121", after := #[{ on := 6, ground := Ground.data }, { on := 9, ground := Ground.data }], guard := none }) (v := ?vb_10) rfl (by kernel_rfl) (by kernel_rfl) (by kernel_rfl) (fun _ _ _ h => h) (Or.inl ⟨by rfl, ?yb_10⟩) (by assumption) ?tb_10
    case yb_10 => (intro w hSw; try dsimp only at hSw); go_simp; try with_reducible rfl
    simp only [Act.put, List.setIfInBounds_toArray, List.set_cons_zero, List.set_cons_succ]
    refine wpAnyH_take (i := 11) (oi := { dst := some 5, op := Op.assign (Operand.tmp 47), type := 9, pos := "ref.go:121", after := #[{ on := 10, ground := Ground.data }, { on := 9, ground := Ground.chain }, { on := 0, ground := Ground.phase }, { on := 1, ground := Ground.phase }, { on := 2, ground := Ground.phase }, { on := 3, ground := Ground.phase }, { on := 4, ground := Ground.phase }, { on := 5, ground := Ground.phase }, { on := 6, ground := Ground.phase }, { on := 7, ground := Ground.phase }, { on := 8, ground := Ground.phase }, { on := 9, ground := Ground.phase }, { on := 10, ground := Ground.phase }], guard := none }) (v := ?vb_11) rfl (by kernel_rfl) (by kernel_rfl) (by kernel_rfl) (fun _ _ _ h => h) (Or.inl ⟨by rfl, ?yb_11⟩) (by assumption) ?tb_11
    case yb_11 => (intro w hSw; try dsimp only at hSw); go_simp; try with_reducible rfl
    simp only [Act.put, List.setIfInBounds_toArray, List.set_cons_zero, List.set_cons_succ]
    refine wpAnyH_done (by kernel_rfl) ?_ _
    clear hHeld
    go_wp2_with fail
    go_ret
    exact ⟨by rw [HR.out]; rfl, L9.out⟩
end Go.Proofs.YtblnfcffalaeaaaGreatDoor

namespace Go.Proofs.YtblnfcffalaeaaaGreatDoor
open Go.RowKit Go.Shelf

theorem refWithin_any (n a b : Int) (w : World) : Calls Tryz.prog 35 #[.int .i64 n, .int .i64 a, .int .i64 b] w fun e w' => e = .returned (.bool (Fl.within n a b)) ∧ w = w' := by
  by_cases h1 : a ≤ n
  · have hv : decide (n ≤ b) = Fl.within n a b := by unfold Fl.within; simp [h1]
    have HV := Lib.hid hv; clear hv
    go_enter Tryz.func35, Tryz.ntmps35
    go_wp2_with fail
    go_ret
    exact ⟨ret_bool HV.out, rfl⟩
  · have hv : Fl.within n a b = false := by unfold Fl.within; simp [h1]
    have HV := Lib.hid hv; clear hv
    go_enter Tryz.func35, Tryz.ntmps35
    go_wp2_with fail
    go_ret
    exact ⟨ret_bool HV.out.symm, rfl⟩
theorem refMoves_any (a b : Int) (w : World) : Calls Tryz.prog 34 #[.int .i64 a, .int .i64 b] w fun e w' => e = .returned (.bool (Fl.vMoves a b)) ∧ w = w' := by
  by_cases h1 : 0 ≤ a
  · by_cases h2 : a ≤ b
    · have hv : decide (b ≤ 10000) = Fl.vMoves a b := by unfold Fl.vMoves Fl.within; simp [h1, h2]
      have HV := Lib.hid hv; clear hv
      go_enter Tryz.func34, Tryz.ntmps34
      go_wp2_with fail
      go_ret
      exact ⟨ret_bool HV.out, rfl⟩
    · have hv : Fl.vMoves a b = false := by unfold Fl.vMoves Fl.within; simp [h2]
      have HV := Lib.hid hv; clear hv
      go_enter Tryz.func34, Tryz.ntmps34
      go_wp2_with fail
      go_ret
      exact ⟨ret_bool HV.out.symm, rfl⟩
  · have hv : Fl.vMoves a b = false := by unfold Fl.vMoves Fl.within; simp [h1]
    have HV := Lib.hid hv; clear hv
    go_enter Tryz.func34, Tryz.ntmps34
    go_wp2_with fail
    go_ret
    exact ⟨ret_bool HV.out.symm, rfl⟩
set_option maxHeartbeats 1000000 in
theorem refWindow_any (v : Fl.Win) (n : Int) (w : World) (hn : 0 ≤ n ∧ n ≤ 1000000000) : Calls Tryz.prog 37 #[winV v, .int .i64 n] w fun e w' => e = .returned (.bool (Fl.vWin n v)) ∧ Below w.heap.size w w' := by
  obtain ⟨x, y, z⟩ := v
  have W1 := Lib.hid (fun w => refWithin_any x 0 (n - 1) w)
  have W2 := Lib.hid (fun w => refWithin_any y 0 (n - 1) w)
  have W3 := Lib.hid (fun w => refWithin_any z 0 1000000 w)
  have e1 : IntKind.i64.wrap (n - 1) = n - 1 := IntWalk.i64_in _ (by omega)
  have HV : Hid (Fl.vWin n ⟨x, y, z⟩ = (Fl.within x 0 (n - 1) && Fl.within y 0 (n - 1) && decide (x ≠ y) && Fl.within z 0 1000000)) := Lib.hid rfl
  unfold winV
  generalize Fl.vWin n ⟨x, y, z⟩ = V at *
  generalize Fl.within x 0 (n - 1) = b1 at *
  generalize Fl.within y 0 (n - 1) = b2 at *
  generalize Fl.within z 0 1000000 = b3 at *
  clear hn
  go_enter Tryz.func37, Tryz.ntmps37
  go_wp2_with fail
  refine (W1.out _).mono ?_; rintro e w1 ⟨rfl, rfl⟩
  cases b1
  · go_wp2_with fail
    go_ret
    exact ⟨ret_bool (by rw [HV.out]; rfl), below_new _ _⟩
  · go_wp2_with fail
    refine (W2.out _).mono ?_; rintro e w1 ⟨rfl, rfl⟩
    cases b2
    · go_wp2_with fail
      go_ret
      exact ⟨ret_bool (by rw [HV.out]; rfl), below_new _ _⟩
    · by_cases hxy : x = y
      · subst hxy
        go_wp2_with fail
        go_ret
        exact ⟨ret_bool (by rw [HV.out]; simp), below_new _ _⟩
      · have hne : (x == y) = false := by simpa using hxy
        have HNE := Lib.hid hxy
        clear hxy
        go_wp2_with fail
        refine (W3.out _).mono ?_; rintro e w1 ⟨rfl, rfl⟩
        go_wp2_with fail
        go_ret
        exact ⟨ret_bool (by rw [HV.out]; simp [HNE.out]), below_new _ _⟩
/-- The number ahead of the k-th. -/
def prevOf (L : List Int) (k : Nat) : Int := if k = 0 then -1 else L[k - 1]?.getD 0
theorem refWithin_is (n a b : Int) (w : World) : Calls Tryz.prog 35 #[.int .i64 n, .int .i64 a, .int .i64 b] w fun e w' => e = .returned (.bool (Fl.within n a b)) ∧ w' = w := (refWithin_any n a b w).mono fun _ _ ⟨h1, h2⟩ => ⟨h1, h2.symm⟩
set_option maxHeartbeats 1000000 in
theorem refAscending_any (L : List Int) (hi : Int) (a : Option Addr) (c : Nat) (w : World) (h : IntA w a c L) :
    Calls Tryz.prog 58 #[.slice a L.length c, .int .i64 0, .int .i64 hi] w fun e w' => e = .returned (.bool (Fl.asc (hi + 1) (-1) L)) ∧ Below w.heap.size w w' := by
  have hl : L.length ≤ maxLen := Nat.le_trans h.1 h.2.1
  unfold maxLen at hl
  have HA := Lib.hid h; clear h
  go_enter Tryz.func58, Tryz.ntmps58
  go_wp2_with fail
  go_loopg [7] (L.length) (fun g i wr => ∃ k : Nat, k ≤ L.length ∧ g = L.length - k ∧ i = .int .i64 (k : Int) ∧ Hid (Below w.heap.size w wr) ∧ Hid (Fl.asc (hi + 1) (prevOf L k) (L.drop k) = Fl.asc (hi + 1) (-1) L ∧ -1 ≤ prevOf L k))
  case atStart => exact ⟨0, by omega, by omega, rfl, Lib.hid (Below.refl _ _), Lib.hid ⟨rfl, Int.le_refl _⟩⟩
  case round =>
    obtain ⟨k, hk, rfl, rfl, HB, HR⟩ := hrel
    by_cases hlt : k < L.length
    · obtain ⟨b, off, rfl, hb, hc⟩ := (HA.out.below HB.out).at (by omega)
      have c0 := hc k hlt
      have HE := Lib.hid (asc_drop (hi + 1) (prevOf L k) L k hlt)
      have HP : Hid (prevOf L (k + 1) = L[k]) := Lib.hid (by unfold prevOf; rw [if_neg (by omega)]; simp [hlt])
      have W1 := Lib.hid (fun w => refWithin_is L[k] 0 hi w)
      have HW : Hid (Fl.within L[k] 0 hi = (decide (0 ≤ L[k]) && decide (L[k] ≤ hi))) := Lib.hid rfl
      have e9 : IntKind.i64.wrap ((k : Int) + 1) = (k : Int) + 1 := IntWalk.i64_in _ (by omega)
      by_cases h0 : k = 0
      · have hpv : prevOf L k = -1 := by unfold prevOf; rw [if_pos h0]
        rw [hpv] at HE HR
        clear hc hpv
        generalize L[k] = x at *
        subst h0
        have c0' : wr.cell? ⟨b, off, none⟩ = some (.int .i64 x) := c0
        clear c0 e9
        generalize hB : Fl.within x 0 hi = B at *
        have HBB := Lib.hid hB; clear hB
        cases B
        · have HF : Hid (Fl.asc (hi + 1) (-1) L = false) := Lib.hid (by
            rw [← HR.out.1, HE.out]
            have := HW.out
            by_cases hx : 0 ≤ x
            · have h2 : ¬ x ≤ hi := by intro h3; rw [decide_eq_true hx, decide_eq_true h3] at this; cases this
              have : hi + 1 ≤ x := by omega
              simp [this]
            · have : x ≤ -1 := by omega
              simp [this])
          go_upto_region 4 with (fail)
          go_quiet ((go_at_call 35; exact Calls.quiet_of_same (W1.out _)))
          go_wp2_with fail
          go_ret
          exact ⟨ret_bool HF.out.symm, below_drewN HB.out _⟩
        · have HN : Hid (Fl.asc (hi + 1) (prevOf L (0 + 1)) (L.drop (0 + 1)) = Fl.asc (hi + 1) (-1) L ∧ -1 ≤ prevOf L (0 + 1)) := Lib.hid (by
            have h3 := HW.out.symm
            simp at h3
            rw [← HR.out.1, HE.out, HP.out]
            have q1 : ¬ x ≤ -1 := by omega
            have q2 : ¬ hi + 1 ≤ x := by omega
            simp [q1, q2]; omega)
          go_upto_region 4 with (fail)
          go_quiet ((go_at_call 35; exact Calls.quiet_of_same (W1.out _)))
          go_wp2_with fail
          go_roundg (L.length - (0 + 1))
          case rel => exact ⟨0 + 1, hlt, rfl, by go_num, Lib.hid (below_drewN HB.out _), HN⟩
          case measure => omega
      · obtain ⟨j, rfl⟩ : ∃ j, k = j + 1 := ⟨k - 1, by omega⟩
        have c1 := hc j (by omega)
        have hpv : prevOf L (j + 1) = L[j] := by unfold prevOf; rw [if_neg (by omega)]; simp [show j < L.length by omega]
        rw [hpv] at HE HR
        have d2 : wrap64 (j : Int) = (j : Int) := IntWalk.wrap64_in _ (by omega)
        have hj1 : j < L.length := by omega
        clear hc hpv h0
        generalize L[j + 1] = x at *
        generalize L[j] = y at *
        generalize hB : Fl.within x 0 hi = B at *
        have HBB := Lib.hid hB; clear hB
        cases B
        · have HF : Hid (Fl.asc (hi + 1) (-1) L = false) := Lib.hid (by
            rw [← HR.out.1, HE.out]
            have := HW.out
            by_cases hx : 0 ≤ x
            · have h2 : ¬ x ≤ hi := by intro h3; rw [decide_eq_true hx, decide_eq_true h3] at this; cases this
              have : hi + 1 ≤ x := by omega
              simp [this]
            · have : x ≤ y := by have := HR.out.2; omega
              simp [this])
          go_upto_region 4 with (fail)
          go_quiet ((go_at_call 35; exact Calls.quiet_of_same (W1.out _)))
          go_wp2_with fail
          go_ret
          exact ⟨ret_bool HF.out.symm, below_drewN HB.out _⟩
        · by_cases hxy : x ≤ y
          · have HF : Hid (Fl.asc (hi + 1) (-1) L = false) := Lib.hid (by rw [← HR.out.1, HE.out]; simp [hxy])
            go_upto_region 4 with (fail)
            go_quiet ((go_at_call 35; exact Calls.quiet_of_same (W1.out _)))
            go_wp2_with fail
            go_ret
            exact ⟨ret_bool HF.out.symm, below_drewN HB.out _⟩
          · have HN : Hid (Fl.asc (hi + 1) (prevOf L (j + 1 + 1)) (L.drop (j + 1 + 1)) = Fl.asc (hi + 1) (-1) L ∧ -1 ≤ prevOf L (j + 1 + 1)) := Lib.hid (by
              have h3 := HW.out.symm
              simp at h3
              rw [← HR.out.1, HE.out, HP.out]
              have q2 : ¬ hi + 1 ≤ x := by omega
              simp [hxy, q2]; omega)
            go_upto_region 4 with (fail)
            go_quiet ((go_at_call 35; exact Calls.quiet_of_same (W1.out _)))
            go_wp2_with fail
            go_roundg (L.length - (j + 1 + 1))
            case rel => exact ⟨j + 1 + 1, hlt, rfl, by go_num, Lib.hid (below_drewN HB.out _), HN⟩
            case measure => omega
    · have hf : Fl.asc (hi + 1) (-1) L = true := by
        rw [← HR.out.1, List.drop_of_length_le (by omega)]; rfl
      have HF := Lib.hid hf; clear hf
      go_wp2_with fail
      go_ret
      exact ⟨ret_bool HF.out.symm, HB.out⟩
set_option maxRecDepth 100000 in
set_option maxHeartbeats 4000000 in
theorem refStep_any (p : StepP) (n : Int) (w : World) (hp : p.ok w) (hn : 0 ≤ n ∧ n ≤ 1000000000) : Calls Tryz.prog 36 #[p.v, .int .i64 n] w fun e w' => e = .returned (.bool (Fl.vStep n p.s)) ∧ Below w.heap.size w w' := by
  obtain ⟨⟨rc, tl, mn, mx, nx, bk, lm⟩, ta, tc, na, nc⟩ := p
  have HP := Lib.hid hp
  have HV : Hid (Fl.vStep n ⟨rc, tl, mn, mx, nx, bk, lm⟩ = (Fl.within rc 1 1000000 && Fl.within (tl.length : Int) 1 8 && Fl.asc 60 (-1) tl && (decide (1 ≤ mn) && decide (mn ≤ mx)) && decide (mx ≤ 10000) && decide (nx.length ≤ 4) && Fl.asc n (-1) nx && Fl.vRework bk lm n)) := Lib.hid rfl
  have A1 := Lib.hid (fun w h => refAscending_any tl 59 ta tc w h)
  have A2 := Lib.hid (fun w h => refAscending_any nx (n - 1) na nc w h)
  have W1 := Lib.hid (fun w => refWithin_is bk 0 (n - 1) w)
  have W2 := Lib.hid (fun w => refWithin_is lm 1 9 w)
  have W3 := Lib.hid (fun w => refWithin_is rc 1 1000000 w)
  have W4 := Lib.hid (fun w => refWithin_is (tl.length : Int) 1 8 w)
  have e1 : IntKind.i64.wrap (n - 1) = n - 1 := IntWalk.i64_in _ (by omega)
  have HK : Hid (Fl.vRework bk lm n = if bk = -1 then decide (lm = 0) else Fl.within bk 0 (n - 1) && Fl.within lm 1 9) := Lib.hid rfl
  have HK1 : Hid (bk = -1 → Fl.within bk 0 (n - 1) = false) := Lib.hid (by rintro rfl; rfl)
  rw [show (59 : Int) + 1 = 60 by rfl] at A1
  rw [show n - 1 + 1 = n by omega] at A2
  unfold StepP.v
  simp only
  generalize Fl.vStep n ⟨rc, tl, mn, mx, nx, bk, lm⟩ = V at *
  generalize Fl.asc 60 (-1) tl = bT at *
  generalize Fl.asc n (-1) nx = bN at *
  generalize Fl.within bk 0 (n - 1) = b1 at *
  generalize Fl.within lm 1 9 = b2 at *
  generalize Fl.within rc 1 1000000 = b3 at *
  generalize Fl.within (tl.length : Int) 1 8 = b4 at *
  generalize Fl.vRework bk lm n = bK at *
  have HNN := Lib.hid hn
  clear hp hn
  go_enter Tryz.func36, Tryz.ntmps36
  go_wp2_with fail
  have HB := Lib.hid (heap_alloc_new w (.cells #[.int .i64 rc, .slice ta tl.length tc, .int .i64 mn, .int .i64 mx, .slice na nx.length nc, .int .i64 bk, .int .i64 lm] 55))
  have g0 := below_new w (.cells #[.int .i64 rc, .slice ta tl.length tc, .int .i64 mn, .int .i64 mx, .slice na nx.length nc, .int .i64 bk, .int .i64 lm] 55)
  have G0 := Lib.hid g0
  clear g0
  generalize w.alloc (.cells #[.int .i64 rc, .slice ta tl.length tc, .int .i64 mn, .int .i64 mx, .slice na nx.length nc, .int .i64 bk, .int .i64 lm] 55) = w1 at *
  refine (A1.out _ (HP.out.1.below G0.out)).mono ?_; rintro e w2 ⟨rfl, g2⟩
  have HB2 := Lib.hid ((g2.block _ (lt_of_block HB.out)).trans HB.out)
  have G2 := Lib.hid (below_step G0.out g2)
  clear g2 G0 HB
  have c4 := block_cell HB2.out 4 _ rfl
  go_wp2_with fail
  refine (A2.out _ (HP.out.2.below G2.out)).mono ?_; rintro e w3 ⟨rfl, g3⟩
  have HB3 := Lib.hid ((g3.block _ (lt_of_block HB2.out)).trans HB2.out)
  have G3 := Lib.hid (below_step G2.out g3)
  clear g3 G2 HB2 c4 A1 A2 HP e1
  have e1 : IntKind.i64.wrap (n - 1) = n - 1 := IntWalk.i64_in _ (by have := HNN.out; omega)
  have c0 := block_cell HB3.out 0 _ rfl
  have c1 := block_cell HB3.out 1 _ rfl
  have c2 := block_cell HB3.out 2 _ rfl
  have c3 := block_cell HB3.out 3 _ rfl
  have c4 := block_cell HB3.out 4 _ rfl
  have c5 := block_cell HB3.out 5 _ rfl
  have c6 := block_cell HB3.out 6 _ rfl
  go_upto_region 3 with (fail)
  go_cut [7] (fun s7 wx => s7 = .bool bK ∧ wx = w3)
  case first =>
    by_cases hb : bk = -1
    · have hb' : (bk == -1) = true := by simpa using hb
      by_cases hl : lm = 0
      · have hl' : (lm == 0) = true := by simpa using hl
        have hK := HK.out
        rw [if_pos hb, decide_eq_true hl] at hK
        subst hK
        clear hb hl
        go_wp2_with fail
        go_meet
        exact ⟨rfl, rfl⟩
      · have hl' : (lm == 0) = false := by simpa using hl
        have hK := HK.out
        rw [if_pos hb, decide_eq_false hl] at hK
        have hB1 := HK1.out hb
        subst hK hB1
        clear hb hl
        go_wp2_with fail
        refine (W1.out _).mono ?_; rintro e w4 ⟨rfl, rfl⟩
        go_wp2_with fail
        go_meet
        exact ⟨rfl, rfl⟩
    · have hb' : (bk == -1) = false := by simpa using hb
      have hK := HK.out
      rw [if_neg hb] at hK
      subst hK
      clear hb
      go_wp2_with fail
      refine (W1.out _).mono ?_; rintro e w4 ⟨rfl, rfl⟩
      cases b1
      · go_wp2_with fail
        go_meet
        exact ⟨rfl, rfl⟩
      · go_wp2_with fail
        refine (W2.out _).mono ?_; rintro e w4 ⟨rfl, rfl⟩
        go_wp2_with fail
        go_meet
        exact ⟨by simp, rfl⟩
  case rest =>
    obtain ⟨rfl, rfl⟩ := hcut
    clear HK HK1 W1 W2
    cases bT
    · go_wp2_with fail
      go_ret
      exact ⟨ret_bool (by rw [HV.out]; simp), G3.out⟩
    ·
      cases bN
      · go_wp2_with fail
        go_ret
        exact ⟨ret_bool (by rw [HV.out]; simp), G3.out⟩
      ·
        cases bK
        · go_wp2_with fail
          go_ret
          exact ⟨ret_bool (by rw [HV.out]; simp), G3.out⟩
        ·
          go_wp2_with fail
          refine (W3.out _).mono ?_; rintro e w4 ⟨rfl, rfl⟩
          cases b3
          · go_wp2_with fail
            go_ret
            exact ⟨ret_bool (by rw [HV.out]; simp), G3.out⟩
          ·
            go_wp2_with fail
            refine (W4.out _).mono ?_; rintro e w4 ⟨rfl, rfl⟩
            cases b4
            · go_wp2_with fail
              go_ret
              exact ⟨ret_bool (by rw [HV.out]; simp), G3.out⟩
            ·
              by_cases q0 : nx.length ≤ 4
              rotate_left
              · have Q0 := Lib.hid q0
                have q0' : ¬ (nx.length : Int) ≤ 4 := by omega
                clear q0
                go_wp2_with fail
                go_ret
                exact ⟨ret_bool (by rw [HV.out]; simp [Q0.out]), G3.out⟩
              have Q0 := Lib.hid q0
              have q0' : (nx.length : Int) ≤ 4 := by omega
              clear q0
              by_cases q1 : 1 ≤ mn
              rotate_left
              · have Q1 := Lib.hid q1
                go_wp2_with fail
                go_ret
                exact ⟨ret_bool (by rw [HV.out]; have z1 := Q1.out; simp [Q0.out]; omega), G3.out⟩
              have Q1 := Lib.hid q1
              by_cases q2 : mn ≤ mx
              rotate_left
              · have Q2 := Lib.hid q2
                go_wp2_with fail
                go_ret
                exact ⟨ret_bool (by rw [HV.out]; have z2 := Q2.out; simp [Q0.out]; omega), G3.out⟩
              have Q2 := Lib.hid q2
              go_wp2_with fail
              go_ret
              exact ⟨ret_bool (by rw [HV.out]; simp [Q0.out, Q1.out, Q2.out]), G3.out⟩
end Go.Proofs.YtblnfcffalaeaaaGreatDoor

namespace Go.Proofs.YtblnfcffalaeaaaGreatDoor
open Go.RowKit Go.Shelf

theorem valid_eq (q : FlowP) : Fl.valid q.f = (Fl.vMoves q.least q.most && Fl.within (q.P.length : Int) 1 40 && decide (q.W.length ≤ 20) && (stepsOf q.P).all (Fl.vStep q.P.length) && Fl.vWinsFrom q.P.length none q.W) := by
  have e1 : q.f.steps.length = q.P.length := by simp [FlowP.f]
  have e2 : Fl.within (q.P.length : Int) 1 40 = (decide (0 < q.P.length) && decide (q.P.length ≤ 40)) := by
    rw [Bool.eq_iff_iff, Fl.within_iff]; simp; omega
  unfold Fl.valid Fl.vSteps Fl.vWins
  rw [e1, e2]
  show (Fl.vMoves q.least q.most && decide (0 < q.P.length) && (decide (q.P.length ≤ 40) && (stepsOf q.P).all (Fl.vStep q.P.length)) && (decide (q.W.length ≤ 20) && Fl.vWinsFrom q.P.length none q.W)) = _
  cases Fl.vMoves q.least q.most <;> cases decide (0 < q.P.length) <;> cases decide (q.P.length ≤ 40) <;> cases decide (q.W.length ≤ 20) <;> cases (stepsOf q.P).all (Fl.vStep q.P.length) <;> simp

set_option maxRecDepth 100000 in
set_option maxHeartbeats 8000000 in
theorem refValid_any (q : FlowP) (w : World) (hq : q.ok w) : Calls Tryz.prog 18 #[q.v] w fun e w' => e = .returned (.bool (Fl.valid q.f)) ∧ Below w.heap.size w w' := by
  have HV := Lib.hid (valid_eq q)
  have QK := Lib.hid (hq.below (below_new w (flowBox q)))
  obtain ⟨lo, hi, sa, sc, P, va, vc, V⟩ := q
  have M1 := Lib.hid (fun w => refMoves_any lo hi w)
  have M2 := Lib.hid (fun w => refWithin_any (P.length : Int) 1 40 w)
  have HL : Hid (Fl.within (P.length : Int) 1 40 = true → P.length ≤ 40) := Lib.hid fun h => by have := Fl.within_iff.1 h; omega
  simp only at HV
  generalize Fl.valid (FlowP.f ⟨lo, hi, sa, sc, P, va, vc, V⟩) = VV at *
  generalize Fl.vMoves lo hi = bM at *
  generalize Fl.within (P.length : Int) 1 40 = bL at *
  clear hq
  go_enter Tryz.func18, Tryz.ntmps18
  go_wp2_with fail
  have HF := Lib.hid (heap_alloc_new w (flowBox ⟨lo, hi, sa, sc, P, va, vc, V⟩))
  have G1 := Lib.hid (below_new w (flowBox ⟨lo, hi, sa, sc, P, va, vc, V⟩))
  generalize hw1 : w.alloc (flowBox ⟨lo, hi, sa, sc, P, va, vc, V⟩) = w1 at *
  clear hw1
  have a0 := block_cell HF.out 0 _ rfl
  have a1 := block_cell HF.out 1 _ rfl
  have a2 := block_cell HF.out 2 _ rfl
  have a3 := block_cell HF.out 3 _ rfl
  refine (M1.out _).mono ?_; rintro e w2 ⟨rfl, rfl⟩
  cases bM
  · go_wp2_with fail
    go_ret
    exact ⟨ret_bool (by rw [HV.out]; simp), G1.out⟩
  go_wp2_with fail
  refine (M2.out _).mono ?_; rintro e w2 ⟨rfl, rfl⟩
  cases bL
  · go_wp2_with fail
    go_ret
    exact ⟨ret_bool (by rw [HV.out]; simp), G1.out⟩
  have hP40 := HL.out rfl
  clear HL M1 M2
  by_cases hW : V.length ≤ 20
  rotate_left
  · have hW' : (20 : Int) < (V.length : Int) := by omega
    have HW0 := Lib.hid hW; clear hW
    go_wp2_with fail
    go_ret
    exact ⟨ret_bool (by rw [HV.out]; simp [HW0.out]), G1.out⟩
  have hW' : ¬ (20 : Int) < (V.length : Int) := by omega
  have HVV : Hid (VV = ((stepsOf P).all (Fl.vStep P.length) && Fl.vWinsFrom P.length none V)) := Lib.hid (by rw [HV.out]; simp [hW])
  clear HV
  go_wp2_with fail
  clear hW'
  go_loopg [4] (P.length) (fun g i wr => ∃ k : Nat, k ≤ P.length ∧ g = P.length - k ∧ i = .int .i64 (k : Int) ∧ Hid (Below w1.heap.size w1 wr) ∧ Hid ((stepsOf (P.drop k)).all (Fl.vStep P.length) = (stepsOf P).all (Fl.vStep P.length)))
  case atStart => exact ⟨0, by omega, by omega, rfl, Lib.hid (Below.refl _ _), Lib.hid rfl⟩
  case round =>
    obtain ⟨k, hk, rfl, rfl, HB, HR⟩ := hrel
    have b2 := cell_below HB.out a2
    by_cases hlt : k < P.length
    · obtain ⟨b, off, e5, hb, hAt, hok⟩ := (QK.out.1.below HB.out).2.2 k hlt
      simp only at e5
      have HD := Lib.hid (all_drop (P.length : Int) P k hlt)
      have RS := fun w hp => refStep_any (P[k]'hlt) (P.length : Int) w hp (by omega)
      have HRS := Lib.hid RS
      have HOK := Lib.hid hok
      clear RS hok
      generalize P[k] = p at *
      generalize Fl.vStep (P.length : Int) p.s = bS at *
      obtain ⟨⟨rc, tl, mn, mx, nx, bk, lm⟩, ta, tc, na, nc⟩ := p
      obtain ⟨c0, c1, c2, c3, c4, c5, c6⟩ := hAt
      subst e5
      simp only at c0 c1 c2 c3 c4 c5 c6
      have e9 : IntKind.i64.wrap ((k : Int) + 1) = (k : Int) + 1 := IntWalk.i64_in _ (by omega)
      go_wp2_with fail
      refine (HRS.out _ HOK.out).mono ?_; rintro e w3 ⟨rfl, g3⟩
      have G3 := Lib.hid (below_step HB.out g3)
      clear g3 c0 c1 c2 c3 c4 c5 c6 b2
      cases bS
      · go_wp2_with fail
        go_ret
        exact ⟨ret_bool (by rw [HVV.out, ← HR.out, HD.out]; rfl), below_step G1.out G3.out⟩
      · go_wp2_with fail
        go_roundg (P.length - (k + 1))
        case rel => exact ⟨k + 1, hlt, rfl, by go_num, G3, Lib.hid (by rw [← HR.out, HD.out]; simp)⟩
        case measure => omega
    · obtain rfl : k = P.length := by omega
      have HST : Hid ((stepsOf P).all (Fl.vStep P.length) = true) := Lib.hid (by rw [← HR.out, List.drop_length]; rfl)
      clear HR
      go_wp2_with fail
      clear b2
      go_loopg [5] (V.length) (fun g i wq => ∃ k : Nat, k ≤ V.length ∧ g = V.length - k ∧ i = .int .i64 (k : Int) ∧ Hid (Below w1.heap.size w1 wq) ∧ Hid (Fl.vWinsFrom P.length (prevW V k) (V.drop k) = Fl.vWinsFrom P.length none V))
      case atStart => exact ⟨0, by omega, by omega, rfl, HB, Lib.hid rfl⟩
      case round =>
        obtain ⟨k, hk, rfl, rfl, HB, HR⟩ := hrel
        have b3 := cell_below HB.out a3
        by_cases hlt : k < V.length
        · obtain ⟨b, off, e5, hb, hAt⟩ := QK.out.2.2.2 k hlt
          simp only at e5
          have HD := Lib.hid (vWins_drop (P.length : Int) V k hlt)
          have HW := Lib.hid (fun w => refWindow_any (V[k]'hlt) (P.length : Int) w (by omega))
          have e9 : IntKind.i64.wrap ((k : Int) + 1) = (k : Int) + 1 := IntWalk.i64_in _ (by omega)
          generalize hbW : Fl.vWin (P.length : Int) V[k] = bW at *
          clear hbW
          cases bW
          · generalize V[k] = v at *
            obtain ⟨x, y, z⟩ := v
            obtain ⟨c0, c1, c2⟩ := hAt
            subst e5
            simp only at c0 c1 c2
            go_upto_region 12 with (fail)
            refine wp_region_held_drew (S := (fun v1 => Below w1.heap.size w1 v1)) (by kernel_rfl) (HB.out.drew) (fun hHeld => ?_)
            refine wpAnyH_take (i := 0) (oi := { dst := some 46, op := Op.fieldAddr 25 (Operand.tmp 1) 3, type := 0, pos := "ref.go:52", after := #[], guard := none }) (v := ?vf_0) rfl (by kernel_rfl) (by kernel_rfl) (by kernel_rfl) (fun _ _ _ h => h) (Or.inl ⟨by rfl, ?yf_0⟩) (by assumption) ?tf_0
            case yf_0 => (intro w hSw; try dsimp only at hSw); go_simp; try with_reducible rfl
            simp only [Act.put, List.setIfInBounds_toArray, List.set_cons_zero, List.set_cons_succ]
            refine wpAnyH_take (i := 1) (oi := { dst := some 47, op := Op.load 23 (Operand.tmp 46), type := 23, pos := "ref.go:52", after := #[{ on := 0, ground := Ground.data }], guard := none }) (v := ?vf_1) rfl (by kernel_rfl) (by kernel_rfl) (by kernel_rfl) (fun _ _ _ h => h) (Or.inl ⟨by rfl, ?yf_1⟩) (by assumption) ?tf_1
            case yf_1 => (intro w hSw; have h0 := cell_below hSw a3); go_simp; try with_reducible rfl
            simp only [Act.put, List.setIfInBounds_toArray, List.set_cons_zero, List.set_cons_succ]
            refine wpAnyH_take (i := 2) (oi := { dst := some 48, op := Op.move (Operand.tmp 5), type := 3, pos := "ref.go:52", after := #[], guard := none }) (v := ?vf_2) rfl (by kernel_rfl) (by kernel_rfl) (by kernel_rfl) (fun _ _ _ h => h) (Or.inl ⟨by rfl, ?yf_2⟩) (by assumption) ?tf_2
            case yf_2 => (intro w hSw; try dsimp only at hSw); go_simp; try with_reducible rfl
            simp only [Act.put, List.setIfInBounds_toArray, List.set_cons_zero, List.set_cons_succ]
            refine wpAnyH_take (i := 3) (oi := { dst := some 49, op := Op.indexAddr 23 (Operand.tmp 47) (Operand.tmp 48), type := 0, pos := "ref.go:52", after := #[{ on := 1, ground := Ground.data }, { on := 2, ground := Ground.data }], guard := none }) (v := ?vf_3) rfl (by kernel_rfl) (by kernel_rfl) (by kernel_rfl) (fun _ _ _ h => h) (Or.inl ⟨by rfl, ?yf_3⟩) (by assumption) ?tf_3
            case yf_3 => (intro w hSw; try dsimp only at hSw); go_simp; try with_reducible rfl
            simp only [Act.put, List.setIfInBounds_toArray, List.set_cons_zero, List.set_cons_succ]
            refine wpAnyH_take (i := 4) (oi := { dst := some 50, op := Op.load 58 (Operand.tmp 49), type := 58, pos := "ref.go:52", after := #[{ on := 3, ground := Ground.data }], guard := none }) (v := ?vf_4) rfl (by kernel_rfl) (by kernel_rfl) (by kernel_rfl) (fun _ _ _ h => h) (Or.inl ⟨by rfl, ?yf_4⟩) (by assumption) ?tf_4
            case yf_4 => (intro w hSw; have h0 := cell_below hSw c0; have h1 := cell_below hSw c1; have h2 := cell_below hSw c2); go_simp; try with_reducible rfl
            simp only [Act.put, List.setIfInBounds_toArray, List.set_cons_zero, List.set_cons_succ]
            refine wpAnyH_take (i := 5) (oi := { dst := some 51, op := Op.move (Operand.tmp 3), type := 3, pos := "ref.go:52", after := #[], guard := none }) (v := ?vf_5) rfl (by kernel_rfl) (by kernel_rfl) (by kernel_rfl) (fun _ _ _ h => h) (Or.inl ⟨by rfl, ?yf_5⟩) (by assumption) ?tf_5
            case yf_5 => (intro w hSw; try dsimp only at hSw); go_simp; try with_reducible rfl
            simp only [Act.put, List.setIfInBounds_toArray, List.set_cons_zero, List.set_cons_succ]
            refine wpAnyH_ready (rs := [6]) (by kernel_rfl) (by simp) ?_
            refine AllReadyH.cons (o := { dst := some 52, op := Op.call { callee := Callee.value (Operand.func 37), args := #[Operand.tmp 50, Operand.tmp 51], argTypes := #[58, 3] }, type := 4, pos := "ref.go:52", after := #[{ on := 4, ground := Ground.data }, { on := 5, ground := Ground.data }], guard := none }) rfl (fun K hK => ?_) AllReadyH.nil
            go_simp
            refine (HW.out _).mono ?_; rintro e wz ⟨rfl, gz⟩
            have hSz := below_step hHeld gz
            clear gz
            refine hK.out _ _ (hSz) (fun hHeld' => ?_)
            clear hK K hHeld
            have hHeld := hHeld'; clear hHeld'
            try simp only [Act.put, List.setIfInBounds_toArray, List.set_cons_zero, List.set_cons_succ]
            refine wpAnyH_take (i := 7) (oi := { dst := some 53, op := Op.unOp UnOp.not 4 (Operand.tmp 52), type := 4, pos := "ref.go:52", after := #[{ on := 6, ground := Ground.data }], guard := none }) (v := ?vf_7) rfl (by kernel_rfl) (by kernel_rfl) (by kernel_rfl) (fun _ _ _ h => h) (Or.inl ⟨by rfl, ?yf_7⟩) (by assumption) ?tf_7
            case yf_7 => (intro w hSw; try dsimp only at hSw); go_simp; try with_reducible rfl
            simp only [Act.put, List.setIfInBounds_toArray, List.set_cons_zero, List.set_cons_succ]
            refine wpAnyH_take (i := 8) (oi := { dst := some 54, op := Op.move (Operand.tmp 53), type := 4, pos := "ref.go:52", after := #[{ on := 7, ground := Ground.data }, { on := 6, ground := Ground.chain }], guard := none }) (v := ?vf_8) rfl (by kernel_rfl) (by kernel_rfl) (by kernel_rfl) (fun _ _ _ h => h) (Or.inl ⟨by rfl, ?yf_8⟩) (by assumption) ?tf_8
            case yf_8 => (intro w hSw; try dsimp only at hSw); go_simp; try with_reducible rfl
            simp only [Act.put, List.setIfInBounds_toArray, List.set_cons_zero, List.set_cons_succ]
            refine wpAnyH_take (i := 9) (oi := { dst := some 55, op := Op.move (Operand.tmp 5), type := 3, pos := "ref.go:52", after := #[{ on := 8, ground := Ground.guard }], guard := some (8, false) }) (v := undef) rfl (by kernel_rfl) (by kernel_rfl) (by kernel_rfl) (fun _ _ _ h => h) (Or.inr ⟨by rfl, rfl⟩) (by assumption) ?_
            simp only [Act.put, List.setIfInBounds_toArray, List.set_cons_zero, List.set_cons_succ]
            refine wpAnyH_take (i := 10) (oi := { dst := some 56, op := Op.binOp BinOp.gtr 3 (Operand.tmp 55) (Operand.const (Value.int IntKind.i64 0)) 3, type := 4, pos := "ref.go:52", after := #[{ on := 9, ground := Ground.data }, { on := 8, ground := Ground.guard }], guard := some (8, false) }) (v := undef) rfl (by kernel_rfl) (by kernel_rfl) (by kernel_rfl) (fun _ _ _ h => h) (Or.inr ⟨by rfl, rfl⟩) (by assumption) ?_
            simp only [Act.put, List.setIfInBounds_toArray, List.set_cons_zero, List.set_cons_succ]
            refine wpAnyH_take (i := 11) (oi := { dst := some 57, op := Op.move (Operand.tmp 56), type := 4, pos := "ref.go:52", after := #[{ on := 10, ground := Ground.data }, { on := 8, ground := Ground.chain }, { on := 8, ground := Ground.guard }], guard := some (8, false) }) (v := undef) rfl (by kernel_rfl) (by kernel_rfl) (by kernel_rfl) (fun _ _ _ h => h) (Or.inr ⟨by rfl, rfl⟩) (by assumption) ?_
            simp only [Act.put, List.setIfInBounds_toArray, List.set_cons_zero, List.set_cons_succ]
            refine wpAnyH_take (i := 12) (oi := { dst := some 58, op := Op.fieldAddr 25 (Operand.tmp 1) 3, type := 0, pos := "ref.go:52", after := #[{ on := 11, ground := Ground.guard }], guard := some (11, true) }) (v := undef) rfl (by kernel_rfl) (by kernel_rfl) (by kernel_rfl) (fun _ _ _ h => h) (Or.inr ⟨by rfl, rfl⟩) (by assumption) ?_
            simp only [Act.put, List.setIfInBounds_toArray, List.set_cons_zero, List.set_cons_succ]
            refine wpAnyH_take (i := 13) (oi := { dst := some 59, op := Op.load 23 (Operand.tmp 58), type := 23, pos := "ref.go:52", after := #[{ on := 12, ground := Ground.data }, { on := 11, ground := Ground.guard }], guard := some (11, true) }) (v := undef) rfl (by kernel_rfl) (by kernel_rfl) (by kernel_rfl) (fun _ _ _ h => h) (Or.inr ⟨by rfl, rfl⟩) (by assumption) ?_
            simp only [Act.put, List.setIfInBounds_toArray, List.set_cons_zero, List.set_cons_succ]
            refine wpAnyH_take (i := 14) (oi := { dst := some 60, op := Op.move (Operand.tmp 5), type := 3, pos := "ref.go:52", after := #[{ on := 11, ground := Ground.guard }], guard := some (11, true) }) (v := undef) rfl (by kernel_rfl) (by kernel_rfl) (by kernel_rfl) (fun _ _ _ h => h) (Or.inr ⟨by rfl, rfl⟩) (by assumption) ?_
            simp only [Act.put, List.setIfInBounds_toArray, List.set_cons_zero, List.set_cons_succ]
            refine wpAnyH_take (i := 15) (oi := { dst := some 61, op := Op.binOp BinOp.sub 3 (Operand.tmp 60) (Operand.const (Value.int IntKind.i64 1)) 3, type := 3, pos := "ref.go:52", after := #[{ on := 14, ground := Ground.data }, { on := 11, ground := Ground.guard }], guard := some (11, true) }) (v := undef) rfl (by kernel_rfl) (by kernel_rfl) (by kernel_rfl) (fun _ _ _ h => h) (Or.inr ⟨by rfl, rfl⟩) (by assumption) ?_
            simp only [Act.put, List.setIfInBounds_toArray, List.set_cons_zero, List.set_cons_succ]
            refine wpAnyH_take (i := 16) (oi := { dst := some 62, op := Op.indexAddr 23 (Operand.tmp 59) (Operand.tmp 61), type := 0, pos := "ref.go:52", after := #[{ on := 13, ground := Ground.data }, { on := 15, ground := Ground.data }, { on := 11, ground := Ground.guard }], guard := some (11, true) }) (v := undef) rfl (by kernel_rfl) (by kernel_rfl) (by kernel_rfl) (fun _ _ _ h => h) (Or.inr ⟨by rfl, rfl⟩) (by assumption) ?_
            simp only [Act.put, List.setIfInBounds_toArray, List.set_cons_zero, List.set_cons_succ]
            refine wpAnyH_take (i := 17) (oi := { dst := some 63, op := Op.load 58 (Operand.tmp 62), type := 58, pos := "ref.go:52", after := #[{ on := 16, ground := Ground.data }, { on := 11, ground := Ground.guard }], guard := some (11, true) }) (v := undef) rfl (by kernel_rfl) (by kernel_rfl) (by kernel_rfl) (fun _ _ _ h => h) (Or.inr ⟨by rfl, rfl⟩) (by assumption) ?_
            simp only [Act.put, List.setIfInBounds_toArray, List.set_cons_zero, List.set_cons_succ]
            refine wpAnyH_take (i := 18) (oi := { dst := some 64, op := Op.fieldAddr 25 (Operand.tmp 1) 3, type := 0, pos := "ref.go:52", after := #[{ on := 11, ground := Ground.guard }], guard := some (11, true) }) (v := undef) rfl (by kernel_rfl) (by kernel_rfl) (by kernel_rfl) (fun _ _ _ h => h) (Or.inr ⟨by rfl, rfl⟩) (by assumption) ?_
            simp only [Act.put, List.setIfInBounds_toArray, List.set_cons_zero, List.set_cons_succ]
            refine wpAnyH_take (i := 19) (oi := { dst := some 65, op := Op.load 23 (Operand.tmp 64), type := 23, pos := "ref.go:52", after := #[{ on := 18, ground := Ground.data }, { on := 11, ground := Ground.guard }], guard := some (11, true) }) (v := undef) rfl (by kernel_rfl) (by kernel_rfl) (by kernel_rfl) (fun _ _ _ h => h) (Or.inr ⟨by rfl, rfl⟩) (by assumption) ?_
            simp only [Act.put, List.setIfInBounds_toArray, List.set_cons_zero, List.set_cons_succ]
            refine wpAnyH_take (i := 20) (oi := { dst := some 66, op := Op.move (Operand.tmp 5), type := 3, pos := "ref.go:52", after := #[{ on := 11, ground := Ground.guard }], guard := some (11, true) }) (v := undef) rfl (by kernel_rfl) (by kernel_rfl) (by kernel_rfl) (fun _ _ _ h => h) (Or.inr ⟨by rfl, rfl⟩) (by assumption) ?_
            simp only [Act.put, List.setIfInBounds_toArray, List.set_cons_zero, List.set_cons_succ]
            refine wpAnyH_take (i := 21) (oi := { dst := some 67, op := Op.indexAddr 23 (Operand.tmp 65) (Operand.tmp 66), type := 0, pos := "ref.go:52", after := #[{ on := 19, ground := Ground.data }, { on := 20, ground := Ground.data }, { on := 11, ground := Ground.guard }], guard := some (11, true) }) (v := undef) rfl (by kernel_rfl) (by kernel_rfl) (by kernel_rfl) (fun _ _ _ h => h) (Or.inr ⟨by rfl, rfl⟩) (by assumption) ?_
            simp only [Act.put, List.setIfInBounds_toArray, List.set_cons_zero, List.set_cons_succ]
            refine wpAnyH_take (i := 22) (oi := { dst := some 68, op := Op.load 58 (Operand.tmp 67), type := 58, pos := "ref.go:52", after := #[{ on := 21, ground := Ground.data }, { on := 11, ground := Ground.guard }], guard := some (11, true) }) (v := undef) rfl (by kernel_rfl) (by kernel_rfl) (by kernel_rfl) (fun _ _ _ h => h) (Or.inr ⟨by rfl, rfl⟩) (by assumption) ?_
            simp only [Act.put, List.setIfInBounds_toArray, List.set_cons_zero, List.set_cons_succ]
            refine wpAnyH_take (i := 23) (oi := { dst := some 69, op := Op.call { callee := Callee.value (Operand.func 28), args := #[Operand.tmp 63, Operand.tmp 68], argTypes := #[58, 58] }, type := 4, pos := "ref.go:52", after := #[{ on := 17, ground := Ground.data }, { on := 22, ground := Ground.data }, { on := 11, ground := Ground.chain }, { on := 11, ground := Ground.guard }], guard := some (11, true) }) (v := undef) rfl (by kernel_rfl) (by kernel_rfl) (by kernel_rfl) (fun _ _ _ h => h) (Or.inr ⟨by rfl, rfl⟩) (by assumption) ?_
            simp only [Act.put, List.setIfInBounds_toArray, List.set_cons_zero, List.set_cons_succ]
            refine wpAnyH_take (i := 24) (oi := { dst := some 70, op := Op.unOp UnOp.not 4 (Operand.tmp 69), type := 4, pos := "ref.go:52", after := #[{ on := 23, ground := Ground.data }, { on := 11, ground := Ground.guard }], guard := some (11, true) }) (v := undef) rfl (by kernel_rfl) (by kernel_rfl) (by kernel_rfl) (fun _ _ _ h => h) (Or.inr ⟨by rfl, rfl⟩) (by assumption) ?_
            simp only [Act.put, List.setIfInBounds_toArray, List.set_cons_zero, List.set_cons_succ]
            refine wpAnyH_take (i := 25) (oi := { dst := some 71, op := Op.pick (Operand.tmp 57) (Operand.tmp 70) (Operand.const (Value.bool false)), type := 4, pos := "ref.go:52", after := #[{ on := 11, ground := Ground.data }, { on := 24, ground := Ground.data }, { on := 8, ground := Ground.guard }], guard := some (8, false) }) (v := undef) rfl (by kernel_rfl) (by kernel_rfl) (by kernel_rfl) (fun _ _ _ h => h) (Or.inr ⟨by rfl, rfl⟩) (by assumption) ?_
            simp only [Act.put, List.setIfInBounds_toArray, List.set_cons_zero, List.set_cons_succ]
            refine wpAnyH_take (i := 26) (oi := { dst := some 72, op := Op.pick (Operand.tmp 54) (Operand.const (Value.bool true)) (Operand.tmp 71), type := 4, pos := "ref.go:52", after := #[{ on := 8, ground := Ground.data }, { on := 25, ground := Ground.data }], guard := none }) (v := ?vf_26) rfl (by kernel_rfl) (by kernel_rfl) (by kernel_rfl) (fun _ _ _ h => h) (Or.inl ⟨by rfl, ?yf_26⟩) (by assumption) ?tf_26
            case yf_26 => (intro w hSw; try dsimp only at hSw); go_simp; try with_reducible rfl
            simp only [Act.put, List.setIfInBounds_toArray, List.set_cons_zero, List.set_cons_succ]
            refine wpAnyH_done (by kernel_rfl) ?_ _
            have HS1 := Lib.hid hHeld
            clear hHeld c0 c1 c2 b3
            go_wp2_with fail
            go_ret
            exact ⟨ret_bool (by rw [HVV.out, ← HR.out, HD.out]; simp), below_step G1.out HS1.out⟩
          · by_cases h0 : k = 0
            · subst h0
              have HN : Hid (Fl.vWinsFrom P.length (prevW V (0 + 1)) (V.drop (0 + 1)) = Fl.vWinsFrom P.length none V) := Lib.hid (by rw [← HR.out, HD.out]; simp [prevW])
              generalize V[0] = v at *
              obtain ⟨x, y, z⟩ := v
              obtain ⟨c0, c1, c2⟩ := hAt
              subst e5
              simp only [Nat.zero_mul, Nat.add_zero] at c0 c1 c2
              clear e9
              go_upto_region 12 with (fail)
              refine wp_region_held_drew (S := (fun v1 => Below w1.heap.size w1 v1)) (by kernel_rfl) (HB.out.drew) (fun hHeld => ?_)
              refine wpAnyH_take (i := 0) (oi := { dst := some 46, op := Op.fieldAddr 25 (Operand.tmp 1) 3, type := 0, pos := "ref.go:52", after := #[], guard := none }) (v := ?vz_0) rfl (by kernel_rfl) (by kernel_rfl) (by kernel_rfl) (fun _ _ _ h => h) (Or.inl ⟨by rfl, ?yz_0⟩) (by assumption) ?tz_0
              case yz_0 => (intro w hSw; try dsimp only at hSw); go_simp; try with_reducible rfl
              simp only [Act.put, List.setIfInBounds_toArray, List.set_cons_zero, List.set_cons_succ]
              refine wpAnyH_take (i := 1) (oi := { dst := some 47, op := Op.load 23 (Operand.tmp 46), type := 23, pos := "ref.go:52", after := #[{ on := 0, ground := Ground.data }], guard := none }) (v := ?vz_1) rfl (by kernel_rfl) (by kernel_rfl) (by kernel_rfl) (fun _ _ _ h => h) (Or.inl ⟨by rfl, ?yz_1⟩) (by assumption) ?tz_1
              case yz_1 => (intro w hSw; have h0 := cell_below hSw a3); go_simp; try with_reducible rfl
              simp only [Act.put, List.setIfInBounds_toArray, List.set_cons_zero, List.set_cons_succ]
              refine wpAnyH_take (i := 2) (oi := { dst := some 48, op := Op.move (Operand.tmp 5), type := 3, pos := "ref.go:52", after := #[], guard := none }) (v := ?vz_2) rfl (by kernel_rfl) (by kernel_rfl) (by kernel_rfl) (fun _ _ _ h => h) (Or.inl ⟨by rfl, ?yz_2⟩) (by assumption) ?tz_2
              case yz_2 => (intro w hSw; try dsimp only at hSw); go_simp; try with_reducible rfl
              simp only [Act.put, List.setIfInBounds_toArray, List.set_cons_zero, List.set_cons_succ]
              refine wpAnyH_take (i := 3) (oi := { dst := some 49, op := Op.indexAddr 23 (Operand.tmp 47) (Operand.tmp 48), type := 0, pos := "ref.go:52", after := #[{ on := 1, ground := Ground.data }, { on := 2, ground := Ground.data }], guard := none }) (v := ?vz_3) rfl (by kernel_rfl) (by kernel_rfl) (by kernel_rfl) (fun _ _ _ h => h) (Or.inl ⟨by rfl, ?yz_3⟩) (by assumption) ?tz_3
              case yz_3 => (intro w hSw; try dsimp only at hSw); go_simp; try with_reducible rfl
              simp only [Act.put, List.setIfInBounds_toArray, List.set_cons_zero, List.set_cons_succ]
              refine wpAnyH_take (i := 4) (oi := { dst := some 50, op := Op.load 58 (Operand.tmp 49), type := 58, pos := "ref.go:52", after := #[{ on := 3, ground := Ground.data }], guard := none }) (v := ?vz_4) rfl (by kernel_rfl) (by kernel_rfl) (by kernel_rfl) (fun _ _ _ h => h) (Or.inl ⟨by rfl, ?yz_4⟩) (by assumption) ?tz_4
              case yz_4 => (intro w hSw; have h0 := cell_below hSw c0; have h1 := cell_below hSw c1; have h2 := cell_below hSw c2); go_simp; try with_reducible rfl
              simp only [Act.put, List.setIfInBounds_toArray, List.set_cons_zero, List.set_cons_succ]
              refine wpAnyH_take (i := 5) (oi := { dst := some 51, op := Op.move (Operand.tmp 3), type := 3, pos := "ref.go:52", after := #[], guard := none }) (v := ?vz_5) rfl (by kernel_rfl) (by kernel_rfl) (by kernel_rfl) (fun _ _ _ h => h) (Or.inl ⟨by rfl, ?yz_5⟩) (by assumption) ?tz_5
              case yz_5 => (intro w hSw; try dsimp only at hSw); go_simp; try with_reducible rfl
              simp only [Act.put, List.setIfInBounds_toArray, List.set_cons_zero, List.set_cons_succ]
              refine wpAnyH_ready (rs := [6]) (by kernel_rfl) (by simp) ?_
              refine AllReadyH.cons (o := { dst := some 52, op := Op.call { callee := Callee.value (Operand.func 37), args := #[Operand.tmp 50, Operand.tmp 51], argTypes := #[58, 3] }, type := 4, pos := "ref.go:52", after := #[{ on := 4, ground := Ground.data }, { on := 5, ground := Ground.data }], guard := none }) rfl (fun K hK => ?_) AllReadyH.nil
              go_simp
              refine (HW.out _).mono ?_; rintro e wz ⟨rfl, gz⟩
              have hSz := below_step hHeld gz
              clear gz
              refine hK.out _ _ (hSz) (fun hHeld' => ?_)
              clear hK K hHeld
              have hHeld := hHeld'; clear hHeld'
              try simp only [Act.put, List.setIfInBounds_toArray, List.set_cons_zero, List.set_cons_succ]
              refine wpAnyH_take (i := 7) (oi := { dst := some 53, op := Op.unOp UnOp.not 4 (Operand.tmp 52), type := 4, pos := "ref.go:52", after := #[{ on := 6, ground := Ground.data }], guard := none }) (v := ?vz_7) rfl (by kernel_rfl) (by kernel_rfl) (by kernel_rfl) (fun _ _ _ h => h) (Or.inl ⟨by rfl, ?yz_7⟩) (by assumption) ?tz_7
              case yz_7 => (intro w hSw; try dsimp only at hSw); go_simp; try with_reducible rfl
              simp only [Act.put, List.setIfInBounds_toArray, List.set_cons_zero, List.set_cons_succ]
              refine wpAnyH_take (i := 8) (oi := { dst := some 54, op := Op.move (Operand.tmp 53), type := 4, pos := "ref.go:52", after := #[{ on := 7, ground := Ground.data }, { on := 6, ground := Ground.chain }], guard := none }) (v := ?vz_8) rfl (by kernel_rfl) (by kernel_rfl) (by kernel_rfl) (fun _ _ _ h => h) (Or.inl ⟨by rfl, ?yz_8⟩) (by assumption) ?tz_8
              case yz_8 => (intro w hSw; try dsimp only at hSw); go_simp; try with_reducible rfl
              simp only [Act.put, List.setIfInBounds_toArray, List.set_cons_zero, List.set_cons_succ]
              refine wpAnyH_take (i := 9) (oi := { dst := some 55, op := Op.move (Operand.tmp 5), type := 3, pos := "ref.go:52", after := #[{ on := 8, ground := Ground.guard }], guard := some (8, false) }) (v := ?vz_9) rfl (by kernel_rfl) (by kernel_rfl) (by kernel_rfl) (fun _ _ _ h => h) (Or.inl ⟨by rfl, ?yz_9⟩) (by assumption) ?tz_9
              case yz_9 => (intro w hSw; try dsimp only at hSw); go_simp; try with_reducible rfl
              simp only [Act.put, List.setIfInBounds_toArray, List.set_cons_zero, List.set_cons_succ]
              refine wpAnyH_take (i := 10) (oi := { dst := some 56, op := Op.binOp BinOp.gtr 3 (Operand.tmp 55) (Operand.const (Value.int IntKind.i64 0)) 3, type := 4, pos := "ref.go:52", after := #[{ on := 9, ground := Ground.data }, { on := 8, ground := Ground.guard }], guard := some (8, false) }) (v := ?vz_10) rfl (by kernel_rfl) (by kernel_rfl) (by kernel_rfl) (fun _ _ _ h => h) (Or.inl ⟨by rfl, ?yz_10⟩) (by assumption) ?tz_10
              case yz_10 => (intro w hSw; try dsimp only at hSw); go_simp; try with_reducible rfl
              simp only [Act.put, List.setIfInBounds_toArray, List.set_cons_zero, List.set_cons_succ]
              refine wpAnyH_take (i := 11) (oi := { dst := some 57, op := Op.move (Operand.tmp 56), type := 4, pos := "ref.go:52", after := #[{ on := 10, ground := Ground.data }, { on := 8, ground := Ground.chain }, { on := 8, ground := Ground.guard }], guard := some (8, false) }) (v := ?vz_11) rfl (by kernel_rfl) (by kernel_rfl) (by kernel_rfl) (fun _ _ _ h => h) (Or.inl ⟨by rfl, ?yz_11⟩) (by assumption) ?tz_11
              case yz_11 => (intro w hSw; try dsimp only at hSw); go_simp; try with_reducible rfl
              simp only [Act.put, List.setIfInBounds_toArray, List.set_cons_zero, List.set_cons_succ]
              refine wpAnyH_take (i := 12) (oi := { dst := some 58, op := Op.fieldAddr 25 (Operand.tmp 1) 3, type := 0, pos := "ref.go:52", after := #[{ on := 11, ground := Ground.guard }], guard := some (11, true) }) (v := undef) rfl (by kernel_rfl) (by kernel_rfl) (by kernel_rfl) (fun _ _ _ h => h) (Or.inr ⟨by rfl, rfl⟩) (by assumption) ?_
              simp only [Act.put, List.setIfInBounds_toArray, List.set_cons_zero, List.set_cons_succ]
              refine wpAnyH_take (i := 13) (oi := { dst := some 59, op := Op.load 23 (Operand.tmp 58), type := 23, pos := "ref.go:52", after := #[{ on := 12, ground := Ground.data }, { on := 11, ground := Ground.guard }], guard := some (11, true) }) (v := undef) rfl (by kernel_rfl) (by kernel_rfl) (by kernel_rfl) (fun _ _ _ h => h) (Or.inr ⟨by rfl, rfl⟩) (by assumption) ?_
              simp only [Act.put, List.setIfInBounds_toArray, List.set_cons_zero, List.set_cons_succ]
              refine wpAnyH_take (i := 14) (oi := { dst := some 60, op := Op.move (Operand.tmp 5), type := 3, pos := "ref.go:52", after := #[{ on := 11, ground := Ground.guard }], guard := some (11, true) }) (v := undef) rfl (by kernel_rfl) (by kernel_rfl) (by kernel_rfl) (fun _ _ _ h => h) (Or.inr ⟨by rfl, rfl⟩) (by assumption) ?_
              simp only [Act.put, List.setIfInBounds_toArray, List.set_cons_zero, List.set_cons_succ]
              refine wpAnyH_take (i := 15) (oi := { dst := some 61, op := Op.binOp BinOp.sub 3 (Operand.tmp 60) (Operand.const (Value.int IntKind.i64 1)) 3, type := 3, pos := "ref.go:52", after := #[{ on := 14, ground := Ground.data }, { on := 11, ground := Ground.guard }], guard := some (11, true) }) (v := undef) rfl (by kernel_rfl) (by kernel_rfl) (by kernel_rfl) (fun _ _ _ h => h) (Or.inr ⟨by rfl, rfl⟩) (by assumption) ?_
              simp only [Act.put, List.setIfInBounds_toArray, List.set_cons_zero, List.set_cons_succ]
              refine wpAnyH_take (i := 16) (oi := { dst := some 62, op := Op.indexAddr 23 (Operand.tmp 59) (Operand.tmp 61), type := 0, pos := "ref.go:52", after := #[{ on := 13, ground := Ground.data }, { on := 15, ground := Ground.data }, { on := 11, ground := Ground.guard }], guard := some (11, true) }) (v := undef) rfl (by kernel_rfl) (by kernel_rfl) (by kernel_rfl) (fun _ _ _ h => h) (Or.inr ⟨by rfl, rfl⟩) (by assumption) ?_
              simp only [Act.put, List.setIfInBounds_toArray, List.set_cons_zero, List.set_cons_succ]
              refine wpAnyH_take (i := 17) (oi := { dst := some 63, op := Op.load 58 (Operand.tmp 62), type := 58, pos := "ref.go:52", after := #[{ on := 16, ground := Ground.data }, { on := 11, ground := Ground.guard }], guard := some (11, true) }) (v := undef) rfl (by kernel_rfl) (by kernel_rfl) (by kernel_rfl) (fun _ _ _ h => h) (Or.inr ⟨by rfl, rfl⟩) (by assumption) ?_
              simp only [Act.put, List.setIfInBounds_toArray, List.set_cons_zero, List.set_cons_succ]
              refine wpAnyH_take (i := 18) (oi := { dst := some 64, op := Op.fieldAddr 25 (Operand.tmp 1) 3, type := 0, pos := "ref.go:52", after := #[{ on := 11, ground := Ground.guard }], guard := some (11, true) }) (v := undef) rfl (by kernel_rfl) (by kernel_rfl) (by kernel_rfl) (fun _ _ _ h => h) (Or.inr ⟨by rfl, rfl⟩) (by assumption) ?_
              simp only [Act.put, List.setIfInBounds_toArray, List.set_cons_zero, List.set_cons_succ]
              refine wpAnyH_take (i := 19) (oi := { dst := some 65, op := Op.load 23 (Operand.tmp 64), type := 23, pos := "ref.go:52", after := #[{ on := 18, ground := Ground.data }, { on := 11, ground := Ground.guard }], guard := some (11, true) }) (v := undef) rfl (by kernel_rfl) (by kernel_rfl) (by kernel_rfl) (fun _ _ _ h => h) (Or.inr ⟨by rfl, rfl⟩) (by assumption) ?_
              simp only [Act.put, List.setIfInBounds_toArray, List.set_cons_zero, List.set_cons_succ]
              refine wpAnyH_take (i := 20) (oi := { dst := some 66, op := Op.move (Operand.tmp 5), type := 3, pos := "ref.go:52", after := #[{ on := 11, ground := Ground.guard }], guard := some (11, true) }) (v := undef) rfl (by kernel_rfl) (by kernel_rfl) (by kernel_rfl) (fun _ _ _ h => h) (Or.inr ⟨by rfl, rfl⟩) (by assumption) ?_
              simp only [Act.put, List.setIfInBounds_toArray, List.set_cons_zero, List.set_cons_succ]
              refine wpAnyH_take (i := 21) (oi := { dst := some 67, op := Op.indexAddr 23 (Operand.tmp 65) (Operand.tmp 66), type := 0, pos := "ref.go:52", after := #[{ on := 19, ground := Ground.data }, { on := 20, ground := Ground.data }, { on := 11, ground := Ground.guard }], guard := some (11, true) }) (v := undef) rfl (by kernel_rfl) (by kernel_rfl) (by kernel_rfl) (fun _ _ _ h => h) (Or.inr ⟨by rfl, rfl⟩) (by assumption) ?_
              simp only [Act.put, List.setIfInBounds_toArray, List.set_cons_zero, List.set_cons_succ]
              refine wpAnyH_take (i := 22) (oi := { dst := some 68, op := Op.load 58 (Operand.tmp 67), type := 58, pos := "ref.go:52", after := #[{ on := 21, ground := Ground.data }, { on := 11, ground := Ground.guard }], guard := some (11, true) }) (v := undef) rfl (by kernel_rfl) (by kernel_rfl) (by kernel_rfl) (fun _ _ _ h => h) (Or.inr ⟨by rfl, rfl⟩) (by assumption) ?_
              simp only [Act.put, List.setIfInBounds_toArray, List.set_cons_zero, List.set_cons_succ]
              refine wpAnyH_take (i := 23) (oi := { dst := some 69, op := Op.call { callee := Callee.value (Operand.func 28), args := #[Operand.tmp 63, Operand.tmp 68], argTypes := #[58, 58] }, type := 4, pos := "ref.go:52", after := #[{ on := 17, ground := Ground.data }, { on := 22, ground := Ground.data }, { on := 11, ground := Ground.chain }, { on := 11, ground := Ground.guard }], guard := some (11, true) }) (v := undef) rfl (by kernel_rfl) (by kernel_rfl) (by kernel_rfl) (fun _ _ _ h => h) (Or.inr ⟨by rfl, rfl⟩) (by assumption) ?_
              simp only [Act.put, List.setIfInBounds_toArray, List.set_cons_zero, List.set_cons_succ]
              refine wpAnyH_take (i := 24) (oi := { dst := some 70, op := Op.unOp UnOp.not 4 (Operand.tmp 69), type := 4, pos := "ref.go:52", after := #[{ on := 23, ground := Ground.data }, { on := 11, ground := Ground.guard }], guard := some (11, true) }) (v := undef) rfl (by kernel_rfl) (by kernel_rfl) (by kernel_rfl) (fun _ _ _ h => h) (Or.inr ⟨by rfl, rfl⟩) (by assumption) ?_
              simp only [Act.put, List.setIfInBounds_toArray, List.set_cons_zero, List.set_cons_succ]
              refine wpAnyH_take (i := 25) (oi := { dst := some 71, op := Op.pick (Operand.tmp 57) (Operand.tmp 70) (Operand.const (Value.bool false)), type := 4, pos := "ref.go:52", after := #[{ on := 11, ground := Ground.data }, { on := 24, ground := Ground.data }, { on := 8, ground := Ground.guard }], guard := some (8, false) }) (v := ?vz_25) rfl (by kernel_rfl) (by kernel_rfl) (by kernel_rfl) (fun _ _ _ h => h) (Or.inl ⟨by rfl, ?yz_25⟩) (by assumption) ?tz_25
              case yz_25 => (intro w hSw; try dsimp only at hSw); go_simp; try with_reducible rfl
              simp only [Act.put, List.setIfInBounds_toArray, List.set_cons_zero, List.set_cons_succ]
              refine wpAnyH_take (i := 26) (oi := { dst := some 72, op := Op.pick (Operand.tmp 54) (Operand.const (Value.bool true)) (Operand.tmp 71), type := 4, pos := "ref.go:52", after := #[{ on := 8, ground := Ground.data }, { on := 25, ground := Ground.data }], guard := none }) (v := ?vz_26) rfl (by kernel_rfl) (by kernel_rfl) (by kernel_rfl) (fun _ _ _ h => h) (Or.inl ⟨by rfl, ?yz_26⟩) (by assumption) ?tz_26
              case yz_26 => (intro w hSw; try dsimp only at hSw); go_simp; try with_reducible rfl
              simp only [Act.put, List.setIfInBounds_toArray, List.set_cons_zero, List.set_cons_succ]
              refine wpAnyH_done (by kernel_rfl) ?_ _
              have HS1 := Lib.hid hHeld
              clear hHeld c0 c1 c2 b3
              go_wp2_with fail
              go_roundg (V.length - (0 + 1))
              case rel => exact ⟨0 + 1, hlt, rfl, by go_num, HS1, HN⟩
              case measure => omega
            · obtain ⟨j, rfl⟩ : ∃ j, k = j + 1 := ⟨k - 1, by omega⟩
              obtain ⟨b', off', e', hb', hAt'⟩ := QK.out.2.2.2 j (Nat.lt_of_succ_lt hlt)
              have hj1 : j < V.length := by omega
              have hj0 : (0 : Int) ≤ (j : Int) + 1 := by omega
              have hpv : prevW V (j + 1) = some V[j] := by unfold prevW; rw [if_neg (by omega)]; simp [hj1]
              rw [hpv] at HD HR
              simp only at HD
              have HA := Lib.hid (fun w => refAfter_any (V[j]'hj1) (V[j + 1]'hlt) w)
              have d2 : IntKind.i64.wrap (j : Int) = (j : Int) := IntWalk.i64_in _ (by omega)
              generalize hbA : Fl.ahead V[j] V[j + 1] = bA at *
              clear hbA hpv h0
              generalize V[j + 1] = v at *
              generalize V[j] = u at *
              obtain ⟨x, y, z⟩ := v
              obtain ⟨x', y', z'⟩ := u
              obtain ⟨c0, c1, c2⟩ := hAt
              obtain ⟨d0, d1, d3⟩ := hAt'
              simp only at e'
              rw [e5] at e'
              injection e' with e'; injection e' with e1' e2'
              subst e1' e2'
              subst e5
              simp only at c0 c1 c2 d0 d1 d3
              cases bA
              · go_upto_region 12 with (fail)
                refine wp_region_held_drew (S := (fun v1 => Below w1.heap.size w1 v1)) (by kernel_rfl) (HB.out.drew) (fun hHeld => ?_)
                refine wpAnyH_take (i := 0) (oi := { dst := some 46, op := Op.fieldAddr 25 (Operand.tmp 1) 3, type := 0, pos := "ref.go:52", after := #[], guard := none }) (v := ?vo_0) rfl (by kernel_rfl) (by kernel_rfl) (by kernel_rfl) (fun _ _ _ h => h) (Or.inl ⟨by rfl, ?yo_0⟩) (by assumption) ?to_0
                case yo_0 => (intro w hSw; try dsimp only at hSw); go_simp; try with_reducible rfl
                simp only [Act.put, List.setIfInBounds_toArray, List.set_cons_zero, List.set_cons_succ]
                refine wpAnyH_take (i := 1) (oi := { dst := some 47, op := Op.load 23 (Operand.tmp 46), type := 23, pos := "ref.go:52", after := #[{ on := 0, ground := Ground.data }], guard := none }) (v := ?vo_1) rfl (by kernel_rfl) (by kernel_rfl) (by kernel_rfl) (fun _ _ _ h => h) (Or.inl ⟨by rfl, ?yo_1⟩) (by assumption) ?to_1
                case yo_1 => (intro w hSw; have h0 := cell_below hSw a3); go_simp; try with_reducible rfl
                simp only [Act.put, List.setIfInBounds_toArray, List.set_cons_zero, List.set_cons_succ]
                refine wpAnyH_take (i := 2) (oi := { dst := some 48, op := Op.move (Operand.tmp 5), type := 3, pos := "ref.go:52", after := #[], guard := none }) (v := ?vo_2) rfl (by kernel_rfl) (by kernel_rfl) (by kernel_rfl) (fun _ _ _ h => h) (Or.inl ⟨by rfl, ?yo_2⟩) (by assumption) ?to_2
                case yo_2 => (intro w hSw; try dsimp only at hSw); go_simp; try with_reducible rfl
                simp only [Act.put, List.setIfInBounds_toArray, List.set_cons_zero, List.set_cons_succ]
                refine wpAnyH_take (i := 3) (oi := { dst := some 49, op := Op.indexAddr 23 (Operand.tmp 47) (Operand.tmp 48), type := 0, pos := "ref.go:52", after := #[{ on := 1, ground := Ground.data }, { on := 2, ground := Ground.data }], guard := none }) (v := ?vo_3) rfl (by kernel_rfl) (by kernel_rfl) (by kernel_rfl) (fun _ _ _ h => h) (Or.inl ⟨by rfl, ?yo_3⟩) (by assumption) ?to_3
                case yo_3 => (intro w hSw; try dsimp only at hSw); go_simp; try with_reducible rfl
                simp only [Act.put, List.setIfInBounds_toArray, List.set_cons_zero, List.set_cons_succ]
                refine wpAnyH_take (i := 4) (oi := { dst := some 50, op := Op.load 58 (Operand.tmp 49), type := 58, pos := "ref.go:52", after := #[{ on := 3, ground := Ground.data }], guard := none }) (v := ?vo_4) rfl (by kernel_rfl) (by kernel_rfl) (by kernel_rfl) (fun _ _ _ h => h) (Or.inl ⟨by rfl, ?yo_4⟩) (by assumption) ?to_4
                case yo_4 => (intro w hSw; have h0 := cell_below hSw c0; have h1 := cell_below hSw c1; have h2 := cell_below hSw c2); go_simp; try with_reducible rfl
                simp only [Act.put, List.setIfInBounds_toArray, List.set_cons_zero, List.set_cons_succ]
                refine wpAnyH_take (i := 5) (oi := { dst := some 51, op := Op.move (Operand.tmp 3), type := 3, pos := "ref.go:52", after := #[], guard := none }) (v := ?vo_5) rfl (by kernel_rfl) (by kernel_rfl) (by kernel_rfl) (fun _ _ _ h => h) (Or.inl ⟨by rfl, ?yo_5⟩) (by assumption) ?to_5
                case yo_5 => (intro w hSw; try dsimp only at hSw); go_simp; try with_reducible rfl
                simp only [Act.put, List.setIfInBounds_toArray, List.set_cons_zero, List.set_cons_succ]
                refine wpAnyH_ready (rs := [6]) (by kernel_rfl) (by simp) ?_
                refine AllReadyH.cons (o := { dst := some 52, op := Op.call { callee := Callee.value (Operand.func 37), args := #[Operand.tmp 50, Operand.tmp 51], argTypes := #[58, 3] }, type := 4, pos := "ref.go:52", after := #[{ on := 4, ground := Ground.data }, { on := 5, ground := Ground.data }], guard := none }) rfl (fun K hK => ?_) AllReadyH.nil
                go_simp
                refine (HW.out _).mono ?_; rintro e wz ⟨rfl, gz⟩
                have hSz := below_step hHeld gz
                clear gz
                refine hK.out _ _ (hSz) (fun hHeld' => ?_)
                clear hK K hHeld
                have hHeld := hHeld'; clear hHeld'
                try simp only [Act.put, List.setIfInBounds_toArray, List.set_cons_zero, List.set_cons_succ]
                refine wpAnyH_take (i := 7) (oi := { dst := some 53, op := Op.unOp UnOp.not 4 (Operand.tmp 52), type := 4, pos := "ref.go:52", after := #[{ on := 6, ground := Ground.data }], guard := none }) (v := ?vo_7) rfl (by kernel_rfl) (by kernel_rfl) (by kernel_rfl) (fun _ _ _ h => h) (Or.inl ⟨by rfl, ?yo_7⟩) (by assumption) ?to_7
                case yo_7 => (intro w hSw; try dsimp only at hSw); go_simp; try with_reducible rfl
                simp only [Act.put, List.setIfInBounds_toArray, List.set_cons_zero, List.set_cons_succ]
                refine wpAnyH_take (i := 8) (oi := { dst := some 54, op := Op.move (Operand.tmp 53), type := 4, pos := "ref.go:52", after := #[{ on := 7, ground := Ground.data }, { on := 6, ground := Ground.chain }], guard := none }) (v := ?vo_8) rfl (by kernel_rfl) (by kernel_rfl) (by kernel_rfl) (fun _ _ _ h => h) (Or.inl ⟨by rfl, ?yo_8⟩) (by assumption) ?to_8
                case yo_8 => (intro w hSw; try dsimp only at hSw); go_simp; try with_reducible rfl
                simp only [Act.put, List.setIfInBounds_toArray, List.set_cons_zero, List.set_cons_succ]
                refine wpAnyH_take (i := 9) (oi := { dst := some 55, op := Op.move (Operand.tmp 5), type := 3, pos := "ref.go:52", after := #[{ on := 8, ground := Ground.guard }], guard := some (8, false) }) (v := ?vo_9) rfl (by kernel_rfl) (by kernel_rfl) (by kernel_rfl) (fun _ _ _ h => h) (Or.inl ⟨by rfl, ?yo_9⟩) (by assumption) ?to_9
                case yo_9 => (intro w hSw; try dsimp only at hSw); go_simp; try with_reducible rfl
                simp only [Act.put, List.setIfInBounds_toArray, List.set_cons_zero, List.set_cons_succ]
                refine wpAnyH_take (i := 10) (oi := { dst := some 56, op := Op.binOp BinOp.gtr 3 (Operand.tmp 55) (Operand.const (Value.int IntKind.i64 0)) 3, type := 4, pos := "ref.go:52", after := #[{ on := 9, ground := Ground.data }, { on := 8, ground := Ground.guard }], guard := some (8, false) }) (v := ?vo_10) rfl (by kernel_rfl) (by kernel_rfl) (by kernel_rfl) (fun _ _ _ h => h) (Or.inl ⟨by rfl, ?yo_10⟩) (by assumption) ?to_10
                case yo_10 => (intro w hSw; try dsimp only at hSw); go_simp; try with_reducible rfl
                simp only [Act.put, List.setIfInBounds_toArray, List.set_cons_zero, List.set_cons_succ]
                refine wpAnyH_take (i := 11) (oi := { dst := some 57, op := Op.move (Operand.tmp 56), type := 4, pos := "ref.go:52", after := #[{ on := 10, ground := Ground.data }, { on := 8, ground := Ground.chain }, { on := 8, ground := Ground.guard }], guard := some (8, false) }) (v := ?vo_11) rfl (by kernel_rfl) (by kernel_rfl) (by kernel_rfl) (fun _ _ _ h => h) (Or.inl ⟨by rfl, ?yo_11⟩) (by assumption) ?to_11
                case yo_11 => (intro w hSw; try dsimp only at hSw); go_simp; try with_reducible rfl
                simp only [Act.put, List.setIfInBounds_toArray, List.set_cons_zero, List.set_cons_succ]
                refine wpAnyH_take (i := 12) (oi := { dst := some 58, op := Op.fieldAddr 25 (Operand.tmp 1) 3, type := 0, pos := "ref.go:52", after := #[{ on := 11, ground := Ground.guard }], guard := some (11, true) }) (v := ?vo_12) rfl (by kernel_rfl) (by kernel_rfl) (by kernel_rfl) (fun _ _ _ h => h) (Or.inl ⟨by rfl, ?yo_12⟩) (by assumption) ?to_12
                case yo_12 => (intro w hSw; try dsimp only at hSw); go_simp; try with_reducible rfl
                simp only [Act.put, List.setIfInBounds_toArray, List.set_cons_zero, List.set_cons_succ]
                refine wpAnyH_take (i := 13) (oi := { dst := some 59, op := Op.load 23 (Operand.tmp 58), type := 23, pos := "ref.go:52", after := #[{ on := 12, ground := Ground.data }, { on := 11, ground := Ground.guard }], guard := some (11, true) }) (v := ?vo_13) rfl (by kernel_rfl) (by kernel_rfl) (by kernel_rfl) (fun _ _ _ h => h) (Or.inl ⟨by rfl, ?yo_13⟩) (by assumption) ?to_13
                case yo_13 => (intro w hSw; have h0 := cell_below hSw a3); go_simp; try with_reducible rfl
                simp only [Act.put, List.setIfInBounds_toArray, List.set_cons_zero, List.set_cons_succ]
                refine wpAnyH_take (i := 14) (oi := { dst := some 60, op := Op.move (Operand.tmp 5), type := 3, pos := "ref.go:52", after := #[{ on := 11, ground := Ground.guard }], guard := some (11, true) }) (v := ?vo_14) rfl (by kernel_rfl) (by kernel_rfl) (by kernel_rfl) (fun _ _ _ h => h) (Or.inl ⟨by rfl, ?yo_14⟩) (by assumption) ?to_14
                case yo_14 => (intro w hSw; try dsimp only at hSw); go_simp; try with_reducible rfl
                simp only [Act.put, List.setIfInBounds_toArray, List.set_cons_zero, List.set_cons_succ]
                refine wpAnyH_take (i := 15) (oi := { dst := some 61, op := Op.binOp BinOp.sub 3 (Operand.tmp 60) (Operand.const (Value.int IntKind.i64 1)) 3, type := 3, pos := "ref.go:52", after := #[{ on := 14, ground := Ground.data }, { on := 11, ground := Ground.guard }], guard := some (11, true) }) (v := ?vo_15) rfl (by kernel_rfl) (by kernel_rfl) (by kernel_rfl) (fun _ _ _ h => h) (Or.inl ⟨by rfl, ?yo_15⟩) (by assumption) ?to_15
                case yo_15 => (intro w hSw; try dsimp only at hSw); go_simp; try with_reducible rfl
                simp only [Act.put, List.setIfInBounds_toArray, List.set_cons_zero, List.set_cons_succ]
                refine wpAnyH_take (i := 16) (oi := { dst := some 62, op := Op.indexAddr 23 (Operand.tmp 59) (Operand.tmp 61), type := 0, pos := "ref.go:52", after := #[{ on := 13, ground := Ground.data }, { on := 15, ground := Ground.data }, { on := 11, ground := Ground.guard }], guard := some (11, true) }) (v := ?vo_16) rfl (by kernel_rfl) (by kernel_rfl) (by kernel_rfl) (fun _ _ _ h => h) (Or.inl ⟨by rfl, ?yo_16⟩) (by assumption) ?to_16
                case yo_16 => (intro w hSw; try dsimp only at hSw); go_simp; try with_reducible rfl
                simp only [Act.put, List.setIfInBounds_toArray, List.set_cons_zero, List.set_cons_succ]
                refine wpAnyH_take (i := 17) (oi := { dst := some 63, op := Op.load 58 (Operand.tmp 62), type := 58, pos := "ref.go:52", after := #[{ on := 16, ground := Ground.data }, { on := 11, ground := Ground.guard }], guard := some (11, true) }) (v := ?vo_17) rfl (by kernel_rfl) (by kernel_rfl) (by kernel_rfl) (fun _ _ _ h => h) (Or.inl ⟨by rfl, ?yo_17⟩) (by assumption) ?to_17
                case yo_17 => (intro w hSw; have h0 := cell_below hSw d0; have h1 := cell_below hSw d1; have h2 := cell_below hSw d3); go_simp; try with_reducible rfl
                simp only [Act.put, List.setIfInBounds_toArray, List.set_cons_zero, List.set_cons_succ]
                refine wpAnyH_take (i := 18) (oi := { dst := some 64, op := Op.fieldAddr 25 (Operand.tmp 1) 3, type := 0, pos := "ref.go:52", after := #[{ on := 11, ground := Ground.guard }], guard := some (11, true) }) (v := ?vo_18) rfl (by kernel_rfl) (by kernel_rfl) (by kernel_rfl) (fun _ _ _ h => h) (Or.inl ⟨by rfl, ?yo_18⟩) (by assumption) ?to_18
                case yo_18 => (intro w hSw; try dsimp only at hSw); go_simp; try with_reducible rfl
                simp only [Act.put, List.setIfInBounds_toArray, List.set_cons_zero, List.set_cons_succ]
                refine wpAnyH_take (i := 19) (oi := { dst := some 65, op := Op.load 23 (Operand.tmp 64), type := 23, pos := "ref.go:52", after := #[{ on := 18, ground := Ground.data }, { on := 11, ground := Ground.guard }], guard := some (11, true) }) (v := ?vo_19) rfl (by kernel_rfl) (by kernel_rfl) (by kernel_rfl) (fun _ _ _ h => h) (Or.inl ⟨by rfl, ?yo_19⟩) (by assumption) ?to_19
                case yo_19 => (intro w hSw; have h0 := cell_below hSw a3); go_simp; try with_reducible rfl
                simp only [Act.put, List.setIfInBounds_toArray, List.set_cons_zero, List.set_cons_succ]
                refine wpAnyH_take (i := 20) (oi := { dst := some 66, op := Op.move (Operand.tmp 5), type := 3, pos := "ref.go:52", after := #[{ on := 11, ground := Ground.guard }], guard := some (11, true) }) (v := ?vo_20) rfl (by kernel_rfl) (by kernel_rfl) (by kernel_rfl) (fun _ _ _ h => h) (Or.inl ⟨by rfl, ?yo_20⟩) (by assumption) ?to_20
                case yo_20 => (intro w hSw; try dsimp only at hSw); go_simp; try with_reducible rfl
                simp only [Act.put, List.setIfInBounds_toArray, List.set_cons_zero, List.set_cons_succ]
                refine wpAnyH_take (i := 21) (oi := { dst := some 67, op := Op.indexAddr 23 (Operand.tmp 65) (Operand.tmp 66), type := 0, pos := "ref.go:52", after := #[{ on := 19, ground := Ground.data }, { on := 20, ground := Ground.data }, { on := 11, ground := Ground.guard }], guard := some (11, true) }) (v := ?vo_21) rfl (by kernel_rfl) (by kernel_rfl) (by kernel_rfl) (fun _ _ _ h => h) (Or.inl ⟨by rfl, ?yo_21⟩) (by assumption) ?to_21
                case yo_21 => (intro w hSw; try dsimp only at hSw); go_simp; try with_reducible rfl
                simp only [Act.put, List.setIfInBounds_toArray, List.set_cons_zero, List.set_cons_succ]
                refine wpAnyH_take (i := 22) (oi := { dst := some 68, op := Op.load 58 (Operand.tmp 67), type := 58, pos := "ref.go:52", after := #[{ on := 21, ground := Ground.data }, { on := 11, ground := Ground.guard }], guard := some (11, true) }) (v := ?vo_22) rfl (by kernel_rfl) (by kernel_rfl) (by kernel_rfl) (fun _ _ _ h => h) (Or.inl ⟨by rfl, ?yo_22⟩) (by assumption) ?to_22
                case yo_22 => (intro w hSw; have h0 := cell_below hSw c0; have h1 := cell_below hSw c1; have h2 := cell_below hSw c2); go_simp; try with_reducible rfl
                simp only [Act.put, List.setIfInBounds_toArray, List.set_cons_zero, List.set_cons_succ]
                refine wpAnyH_ready (rs := [23]) (by kernel_rfl) (by simp) ?_
                refine AllReadyH.cons (o := { dst := some 69, op := Op.call { callee := Callee.value (Operand.func 28), args := #[Operand.tmp 63, Operand.tmp 68], argTypes := #[58, 58] }, type := 4, pos := "ref.go:52", after := #[{ on := 17, ground := Ground.data }, { on := 22, ground := Ground.data }, { on := 11, ground := Ground.chain }, { on := 11, ground := Ground.guard }], guard := some (11, true) }) rfl (fun K hK => ?_) AllReadyH.nil
                go_simp
                refine (HA.out _).mono ?_; rintro e wz ⟨rfl, gz⟩
                have hSz := below_step hHeld gz
                clear gz
                refine hK.out _ _ (hSz) (fun hHeld' => ?_)
                clear hK K hHeld
                have hHeld := hHeld'; clear hHeld'
                try simp only [Act.put, List.setIfInBounds_toArray, List.set_cons_zero, List.set_cons_succ]
                refine wpAnyH_take (i := 24) (oi := { dst := some 70, op := Op.unOp UnOp.not 4 (Operand.tmp 69), type := 4, pos := "ref.go:52", after := #[{ on := 23, ground := Ground.data }, { on := 11, ground := Ground.guard }], guard := some (11, true) }) (v := ?vo_24) rfl (by kernel_rfl) (by kernel_rfl) (by kernel_rfl) (fun _ _ _ h => h) (Or.inl ⟨by rfl, ?yo_24⟩) (by assumption) ?to_24
                case yo_24 => (intro w hSw; try dsimp only at hSw); go_simp; try with_reducible rfl
                simp only [Act.put, List.setIfInBounds_toArray, List.set_cons_zero, List.set_cons_succ]
                refine wpAnyH_take (i := 25) (oi := { dst := some 71, op := Op.pick (Operand.tmp 57) (Operand.tmp 70) (Operand.const (Value.bool false)), type := 4, pos := "ref.go:52", after := #[{ on := 11, ground := Ground.data }, { on := 24, ground := Ground.data }, { on := 8, ground := Ground.guard }], guard := some (8, false) }) (v := ?vo_25) rfl (by kernel_rfl) (by kernel_rfl) (by kernel_rfl) (fun _ _ _ h => h) (Or.inl ⟨by rfl, ?yo_25⟩) (by assumption) ?to_25
                case yo_25 => (intro w hSw; try dsimp only at hSw); go_simp; try with_reducible rfl
                simp only [Act.put, List.setIfInBounds_toArray, List.set_cons_zero, List.set_cons_succ]
                refine wpAnyH_take (i := 26) (oi := { dst := some 72, op := Op.pick (Operand.tmp 54) (Operand.const (Value.bool true)) (Operand.tmp 71), type := 4, pos := "ref.go:52", after := #[{ on := 8, ground := Ground.data }, { on := 25, ground := Ground.data }], guard := none }) (v := ?vo_26) rfl (by kernel_rfl) (by kernel_rfl) (by kernel_rfl) (fun _ _ _ h => h) (Or.inl ⟨by rfl, ?yo_26⟩) (by assumption) ?to_26
                case yo_26 => (intro w hSw; try dsimp only at hSw); go_simp; try with_reducible rfl
                simp only [Act.put, List.setIfInBounds_toArray, List.set_cons_zero, List.set_cons_succ]
                refine wpAnyH_done (by kernel_rfl) ?_ _
                have HS1 := Lib.hid hHeld
                clear hHeld c0 c1 c2 b3 d0 d1 d3
                go_wp2_with fail
                go_ret
                exact ⟨ret_bool (by rw [HVV.out, ← HR.out, HD.out]; simp), below_step G1.out HS1.out⟩
              · have HN : Hid (Fl.vWinsFrom P.length (prevW V (j + 1 + 1)) (V.drop (j + 1 + 1)) = Fl.vWinsFrom P.length none V) := Lib.hid (by rw [← HR.out, HD.out]; simp)
                go_upto_region 12 with (fail)
                refine wp_region_held_drew (S := (fun v1 => Below w1.heap.size w1 v1)) (by kernel_rfl) (HB.out.drew) (fun hHeld => ?_)
                refine wpAnyH_take (i := 0) (oi := { dst := some 46, op := Op.fieldAddr 25 (Operand.tmp 1) 3, type := 0, pos := "ref.go:52", after := #[], guard := none }) (v := ?vp_0) rfl (by kernel_rfl) (by kernel_rfl) (by kernel_rfl) (fun _ _ _ h => h) (Or.inl ⟨by rfl, ?yp_0⟩) (by assumption) ?tp_0
                case yp_0 => (intro w hSw; try dsimp only at hSw); go_simp; try with_reducible rfl
                simp only [Act.put, List.setIfInBounds_toArray, List.set_cons_zero, List.set_cons_succ]
                refine wpAnyH_take (i := 1) (oi := { dst := some 47, op := Op.load 23 (Operand.tmp 46), type := 23, pos := "ref.go:52", after := #[{ on := 0, ground := Ground.data }], guard := none }) (v := ?vp_1) rfl (by kernel_rfl) (by kernel_rfl) (by kernel_rfl) (fun _ _ _ h => h) (Or.inl ⟨by rfl, ?yp_1⟩) (by assumption) ?tp_1
                case yp_1 => (intro w hSw; have h0 := cell_below hSw a3); go_simp; try with_reducible rfl
                simp only [Act.put, List.setIfInBounds_toArray, List.set_cons_zero, List.set_cons_succ]
                refine wpAnyH_take (i := 2) (oi := { dst := some 48, op := Op.move (Operand.tmp 5), type := 3, pos := "ref.go:52", after := #[], guard := none }) (v := ?vp_2) rfl (by kernel_rfl) (by kernel_rfl) (by kernel_rfl) (fun _ _ _ h => h) (Or.inl ⟨by rfl, ?yp_2⟩) (by assumption) ?tp_2
                case yp_2 => (intro w hSw; try dsimp only at hSw); go_simp; try with_reducible rfl
                simp only [Act.put, List.setIfInBounds_toArray, List.set_cons_zero, List.set_cons_succ]
                refine wpAnyH_take (i := 3) (oi := { dst := some 49, op := Op.indexAddr 23 (Operand.tmp 47) (Operand.tmp 48), type := 0, pos := "ref.go:52", after := #[{ on := 1, ground := Ground.data }, { on := 2, ground := Ground.data }], guard := none }) (v := ?vp_3) rfl (by kernel_rfl) (by kernel_rfl) (by kernel_rfl) (fun _ _ _ h => h) (Or.inl ⟨by rfl, ?yp_3⟩) (by assumption) ?tp_3
                case yp_3 => (intro w hSw; try dsimp only at hSw); go_simp; try with_reducible rfl
                simp only [Act.put, List.setIfInBounds_toArray, List.set_cons_zero, List.set_cons_succ]
                refine wpAnyH_take (i := 4) (oi := { dst := some 50, op := Op.load 58 (Operand.tmp 49), type := 58, pos := "ref.go:52", after := #[{ on := 3, ground := Ground.data }], guard := none }) (v := ?vp_4) rfl (by kernel_rfl) (by kernel_rfl) (by kernel_rfl) (fun _ _ _ h => h) (Or.inl ⟨by rfl, ?yp_4⟩) (by assumption) ?tp_4
                case yp_4 => (intro w hSw; have h0 := cell_below hSw c0; have h1 := cell_below hSw c1; have h2 := cell_below hSw c2); go_simp; try with_reducible rfl
                simp only [Act.put, List.setIfInBounds_toArray, List.set_cons_zero, List.set_cons_succ]
                refine wpAnyH_take (i := 5) (oi := { dst := some 51, op := Op.move (Operand.tmp 3), type := 3, pos := "ref.go:52", after := #[], guard := none }) (v := ?vp_5) rfl (by kernel_rfl) (by kernel_rfl) (by kernel_rfl) (fun _ _ _ h => h) (Or.inl ⟨by rfl, ?yp_5⟩) (by assumption) ?tp_5
                case yp_5 => (intro w hSw; try dsimp only at hSw); go_simp; try with_reducible rfl
                simp only [Act.put, List.setIfInBounds_toArray, List.set_cons_zero, List.set_cons_succ]
                refine wpAnyH_ready (rs := [6]) (by kernel_rfl) (by simp) ?_
                refine AllReadyH.cons (o := { dst := some 52, op := Op.call { callee := Callee.value (Operand.func 37), args := #[Operand.tmp 50, Operand.tmp 51], argTypes := #[58, 3] }, type := 4, pos := "ref.go:52", after := #[{ on := 4, ground := Ground.data }, { on := 5, ground := Ground.data }], guard := none }) rfl (fun K hK => ?_) AllReadyH.nil
                go_simp
                refine (HW.out _).mono ?_; rintro e wz ⟨rfl, gz⟩
                have hSz := below_step hHeld gz
                clear gz
                refine hK.out _ _ (hSz) (fun hHeld' => ?_)
                clear hK K hHeld
                have hHeld := hHeld'; clear hHeld'
                try simp only [Act.put, List.setIfInBounds_toArray, List.set_cons_zero, List.set_cons_succ]
                refine wpAnyH_take (i := 7) (oi := { dst := some 53, op := Op.unOp UnOp.not 4 (Operand.tmp 52), type := 4, pos := "ref.go:52", after := #[{ on := 6, ground := Ground.data }], guard := none }) (v := ?vp_7) rfl (by kernel_rfl) (by kernel_rfl) (by kernel_rfl) (fun _ _ _ h => h) (Or.inl ⟨by rfl, ?yp_7⟩) (by assumption) ?tp_7
                case yp_7 => (intro w hSw; try dsimp only at hSw); go_simp; try with_reducible rfl
                simp only [Act.put, List.setIfInBounds_toArray, List.set_cons_zero, List.set_cons_succ]
                refine wpAnyH_take (i := 8) (oi := { dst := some 54, op := Op.move (Operand.tmp 53), type := 4, pos := "ref.go:52", after := #[{ on := 7, ground := Ground.data }, { on := 6, ground := Ground.chain }], guard := none }) (v := ?vp_8) rfl (by kernel_rfl) (by kernel_rfl) (by kernel_rfl) (fun _ _ _ h => h) (Or.inl ⟨by rfl, ?yp_8⟩) (by assumption) ?tp_8
                case yp_8 => (intro w hSw; try dsimp only at hSw); go_simp; try with_reducible rfl
                simp only [Act.put, List.setIfInBounds_toArray, List.set_cons_zero, List.set_cons_succ]
                refine wpAnyH_take (i := 9) (oi := { dst := some 55, op := Op.move (Operand.tmp 5), type := 3, pos := "ref.go:52", after := #[{ on := 8, ground := Ground.guard }], guard := some (8, false) }) (v := ?vp_9) rfl (by kernel_rfl) (by kernel_rfl) (by kernel_rfl) (fun _ _ _ h => h) (Or.inl ⟨by rfl, ?yp_9⟩) (by assumption) ?tp_9
                case yp_9 => (intro w hSw; try dsimp only at hSw); go_simp; try with_reducible rfl
                simp only [Act.put, List.setIfInBounds_toArray, List.set_cons_zero, List.set_cons_succ]
                refine wpAnyH_take (i := 10) (oi := { dst := some 56, op := Op.binOp BinOp.gtr 3 (Operand.tmp 55) (Operand.const (Value.int IntKind.i64 0)) 3, type := 4, pos := "ref.go:52", after := #[{ on := 9, ground := Ground.data }, { on := 8, ground := Ground.guard }], guard := some (8, false) }) (v := ?vp_10) rfl (by kernel_rfl) (by kernel_rfl) (by kernel_rfl) (fun _ _ _ h => h) (Or.inl ⟨by rfl, ?yp_10⟩) (by assumption) ?tp_10
                case yp_10 => (intro w hSw; try dsimp only at hSw); go_simp; try with_reducible rfl
                simp only [Act.put, List.setIfInBounds_toArray, List.set_cons_zero, List.set_cons_succ]
                refine wpAnyH_take (i := 11) (oi := { dst := some 57, op := Op.move (Operand.tmp 56), type := 4, pos := "ref.go:52", after := #[{ on := 10, ground := Ground.data }, { on := 8, ground := Ground.chain }, { on := 8, ground := Ground.guard }], guard := some (8, false) }) (v := ?vp_11) rfl (by kernel_rfl) (by kernel_rfl) (by kernel_rfl) (fun _ _ _ h => h) (Or.inl ⟨by rfl, ?yp_11⟩) (by assumption) ?tp_11
                case yp_11 => (intro w hSw; try dsimp only at hSw); go_simp; try with_reducible rfl
                simp only [Act.put, List.setIfInBounds_toArray, List.set_cons_zero, List.set_cons_succ]
                refine wpAnyH_take (i := 12) (oi := { dst := some 58, op := Op.fieldAddr 25 (Operand.tmp 1) 3, type := 0, pos := "ref.go:52", after := #[{ on := 11, ground := Ground.guard }], guard := some (11, true) }) (v := ?vp_12) rfl (by kernel_rfl) (by kernel_rfl) (by kernel_rfl) (fun _ _ _ h => h) (Or.inl ⟨by rfl, ?yp_12⟩) (by assumption) ?tp_12
                case yp_12 => (intro w hSw; try dsimp only at hSw); go_simp; try with_reducible rfl
                simp only [Act.put, List.setIfInBounds_toArray, List.set_cons_zero, List.set_cons_succ]
                refine wpAnyH_take (i := 13) (oi := { dst := some 59, op := Op.load 23 (Operand.tmp 58), type := 23, pos := "ref.go:52", after := #[{ on := 12, ground := Ground.data }, { on := 11, ground := Ground.guard }], guard := some (11, true) }) (v := ?vp_13) rfl (by kernel_rfl) (by kernel_rfl) (by kernel_rfl) (fun _ _ _ h => h) (Or.inl ⟨by rfl, ?yp_13⟩) (by assumption) ?tp_13
                case yp_13 => (intro w hSw; have h0 := cell_below hSw a3); go_simp; try with_reducible rfl
                simp only [Act.put, List.setIfInBounds_toArray, List.set_cons_zero, List.set_cons_succ]
                refine wpAnyH_take (i := 14) (oi := { dst := some 60, op := Op.move (Operand.tmp 5), type := 3, pos := "ref.go:52", after := #[{ on := 11, ground := Ground.guard }], guard := some (11, true) }) (v := ?vp_14) rfl (by kernel_rfl) (by kernel_rfl) (by kernel_rfl) (fun _ _ _ h => h) (Or.inl ⟨by rfl, ?yp_14⟩) (by assumption) ?tp_14
                case yp_14 => (intro w hSw; try dsimp only at hSw); go_simp; try with_reducible rfl
                simp only [Act.put, List.setIfInBounds_toArray, List.set_cons_zero, List.set_cons_succ]
                refine wpAnyH_take (i := 15) (oi := { dst := some 61, op := Op.binOp BinOp.sub 3 (Operand.tmp 60) (Operand.const (Value.int IntKind.i64 1)) 3, type := 3, pos := "ref.go:52", after := #[{ on := 14, ground := Ground.data }, { on := 11, ground := Ground.guard }], guard := some (11, true) }) (v := ?vp_15) rfl (by kernel_rfl) (by kernel_rfl) (by kernel_rfl) (fun _ _ _ h => h) (Or.inl ⟨by rfl, ?yp_15⟩) (by assumption) ?tp_15
                case yp_15 => (intro w hSw; try dsimp only at hSw); go_simp; try with_reducible rfl
                simp only [Act.put, List.setIfInBounds_toArray, List.set_cons_zero, List.set_cons_succ]
                refine wpAnyH_take (i := 16) (oi := { dst := some 62, op := Op.indexAddr 23 (Operand.tmp 59) (Operand.tmp 61), type := 0, pos := "ref.go:52", after := #[{ on := 13, ground := Ground.data }, { on := 15, ground := Ground.data }, { on := 11, ground := Ground.guard }], guard := some (11, true) }) (v := ?vp_16) rfl (by kernel_rfl) (by kernel_rfl) (by kernel_rfl) (fun _ _ _ h => h) (Or.inl ⟨by rfl, ?yp_16⟩) (by assumption) ?tp_16
                case yp_16 => (intro w hSw; try dsimp only at hSw); go_simp; try with_reducible rfl
                simp only [Act.put, List.setIfInBounds_toArray, List.set_cons_zero, List.set_cons_succ]
                refine wpAnyH_take (i := 17) (oi := { dst := some 63, op := Op.load 58 (Operand.tmp 62), type := 58, pos := "ref.go:52", after := #[{ on := 16, ground := Ground.data }, { on := 11, ground := Ground.guard }], guard := some (11, true) }) (v := ?vp_17) rfl (by kernel_rfl) (by kernel_rfl) (by kernel_rfl) (fun _ _ _ h => h) (Or.inl ⟨by rfl, ?yp_17⟩) (by assumption) ?tp_17
                case yp_17 => (intro w hSw; have h0 := cell_below hSw d0; have h1 := cell_below hSw d1; have h2 := cell_below hSw d3); go_simp; try with_reducible rfl
                simp only [Act.put, List.setIfInBounds_toArray, List.set_cons_zero, List.set_cons_succ]
                refine wpAnyH_take (i := 18) (oi := { dst := some 64, op := Op.fieldAddr 25 (Operand.tmp 1) 3, type := 0, pos := "ref.go:52", after := #[{ on := 11, ground := Ground.guard }], guard := some (11, true) }) (v := ?vp_18) rfl (by kernel_rfl) (by kernel_rfl) (by kernel_rfl) (fun _ _ _ h => h) (Or.inl ⟨by rfl, ?yp_18⟩) (by assumption) ?tp_18
                case yp_18 => (intro w hSw; try dsimp only at hSw); go_simp; try with_reducible rfl
                simp only [Act.put, List.setIfInBounds_toArray, List.set_cons_zero, List.set_cons_succ]
                refine wpAnyH_take (i := 19) (oi := { dst := some 65, op := Op.load 23 (Operand.tmp 64), type := 23, pos := "ref.go:52", after := #[{ on := 18, ground := Ground.data }, { on := 11, ground := Ground.guard }], guard := some (11, true) }) (v := ?vp_19) rfl (by kernel_rfl) (by kernel_rfl) (by kernel_rfl) (fun _ _ _ h => h) (Or.inl ⟨by rfl, ?yp_19⟩) (by assumption) ?tp_19
                case yp_19 => (intro w hSw; have h0 := cell_below hSw a3); go_simp; try with_reducible rfl
                simp only [Act.put, List.setIfInBounds_toArray, List.set_cons_zero, List.set_cons_succ]
                refine wpAnyH_take (i := 20) (oi := { dst := some 66, op := Op.move (Operand.tmp 5), type := 3, pos := "ref.go:52", after := #[{ on := 11, ground := Ground.guard }], guard := some (11, true) }) (v := ?vp_20) rfl (by kernel_rfl) (by kernel_rfl) (by kernel_rfl) (fun _ _ _ h => h) (Or.inl ⟨by rfl, ?yp_20⟩) (by assumption) ?tp_20
                case yp_20 => (intro w hSw; try dsimp only at hSw); go_simp; try with_reducible rfl
                simp only [Act.put, List.setIfInBounds_toArray, List.set_cons_zero, List.set_cons_succ]
                refine wpAnyH_take (i := 21) (oi := { dst := some 67, op := Op.indexAddr 23 (Operand.tmp 65) (Operand.tmp 66), type := 0, pos := "ref.go:52", after := #[{ on := 19, ground := Ground.data }, { on := 20, ground := Ground.data }, { on := 11, ground := Ground.guard }], guard := some (11, true) }) (v := ?vp_21) rfl (by kernel_rfl) (by kernel_rfl) (by kernel_rfl) (fun _ _ _ h => h) (Or.inl ⟨by rfl, ?yp_21⟩) (by assumption) ?tp_21
                case yp_21 => (intro w hSw; try dsimp only at hSw); go_simp; try with_reducible rfl
                simp only [Act.put, List.setIfInBounds_toArray, List.set_cons_zero, List.set_cons_succ]
                refine wpAnyH_take (i := 22) (oi := { dst := some 68, op := Op.load 58 (Operand.tmp 67), type := 58, pos := "ref.go:52", after := #[{ on := 21, ground := Ground.data }, { on := 11, ground := Ground.guard }], guard := some (11, true) }) (v := ?vp_22) rfl (by kernel_rfl) (by kernel_rfl) (by kernel_rfl) (fun _ _ _ h => h) (Or.inl ⟨by rfl, ?yp_22⟩) (by assumption) ?tp_22
                case yp_22 => (intro w hSw; have h0 := cell_below hSw c0; have h1 := cell_below hSw c1; have h2 := cell_below hSw c2); go_simp; try with_reducible rfl
                simp only [Act.put, List.setIfInBounds_toArray, List.set_cons_zero, List.set_cons_succ]
                refine wpAnyH_ready (rs := [23]) (by kernel_rfl) (by simp) ?_
                refine AllReadyH.cons (o := { dst := some 69, op := Op.call { callee := Callee.value (Operand.func 28), args := #[Operand.tmp 63, Operand.tmp 68], argTypes := #[58, 58] }, type := 4, pos := "ref.go:52", after := #[{ on := 17, ground := Ground.data }, { on := 22, ground := Ground.data }, { on := 11, ground := Ground.chain }, { on := 11, ground := Ground.guard }], guard := some (11, true) }) rfl (fun K hK => ?_) AllReadyH.nil
                go_simp
                refine (HA.out _).mono ?_; rintro e wz ⟨rfl, gz⟩
                have hSz := below_step hHeld gz
                clear gz
                refine hK.out _ _ (hSz) (fun hHeld' => ?_)
                clear hK K hHeld
                have hHeld := hHeld'; clear hHeld'
                try simp only [Act.put, List.setIfInBounds_toArray, List.set_cons_zero, List.set_cons_succ]
                refine wpAnyH_take (i := 24) (oi := { dst := some 70, op := Op.unOp UnOp.not 4 (Operand.tmp 69), type := 4, pos := "ref.go:52", after := #[{ on := 23, ground := Ground.data }, { on := 11, ground := Ground.guard }], guard := some (11, true) }) (v := ?vp_24) rfl (by kernel_rfl) (by kernel_rfl) (by kernel_rfl) (fun _ _ _ h => h) (Or.inl ⟨by rfl, ?yp_24⟩) (by assumption) ?tp_24
                case yp_24 => (intro w hSw; try dsimp only at hSw); go_simp; try with_reducible rfl
                simp only [Act.put, List.setIfInBounds_toArray, List.set_cons_zero, List.set_cons_succ]
                refine wpAnyH_take (i := 25) (oi := { dst := some 71, op := Op.pick (Operand.tmp 57) (Operand.tmp 70) (Operand.const (Value.bool false)), type := 4, pos := "ref.go:52", after := #[{ on := 11, ground := Ground.data }, { on := 24, ground := Ground.data }, { on := 8, ground := Ground.guard }], guard := some (8, false) }) (v := ?vp_25) rfl (by kernel_rfl) (by kernel_rfl) (by kernel_rfl) (fun _ _ _ h => h) (Or.inl ⟨by rfl, ?yp_25⟩) (by assumption) ?tp_25
                case yp_25 => (intro w hSw; try dsimp only at hSw); go_simp; try with_reducible rfl
                simp only [Act.put, List.setIfInBounds_toArray, List.set_cons_zero, List.set_cons_succ]
                refine wpAnyH_take (i := 26) (oi := { dst := some 72, op := Op.pick (Operand.tmp 54) (Operand.const (Value.bool true)) (Operand.tmp 71), type := 4, pos := "ref.go:52", after := #[{ on := 8, ground := Ground.data }, { on := 25, ground := Ground.data }], guard := none }) (v := ?vp_26) rfl (by kernel_rfl) (by kernel_rfl) (by kernel_rfl) (fun _ _ _ h => h) (Or.inl ⟨by rfl, ?yp_26⟩) (by assumption) ?tp_26
                case yp_26 => (intro w hSw; try dsimp only at hSw); go_simp; try with_reducible rfl
                simp only [Act.put, List.setIfInBounds_toArray, List.set_cons_zero, List.set_cons_succ]
                refine wpAnyH_done (by kernel_rfl) ?_ _
                have HS1 := Lib.hid hHeld
                clear hHeld c0 c1 c2 b3 d0 d1 d3
                go_wp2_with fail
                go_roundg (V.length - (j + 1 + 1))
                case rel => exact ⟨j + 1 + 1, hlt, rfl, by go_num, HS1, HN⟩
                case measure => omega
        · obtain rfl : k = V.length := by omega
          have HE : Hid (VV = true) := Lib.hid (by rw [HVV.out, HST.out, ← HR.out, List.drop_length]; rfl)
          go_wp2_with fail
          go_ret
          exact ⟨ret_bool HE.out.symm, below_step G1.out HB.out⟩
end Go.Proofs.YtblnfcffalaeaaaGreatDoor

namespace Go.Proofs.YtblnfcffalaeaaaGreatDoor
open Go.RowKit Go.Shelf

theorem cat_next (L : List (List UInt8)) (k : Nat) (l : List UInt8) (h : L[k]? = some l) : Fl.cat (L.take (k + 1)) = Fl.cat (L.take k) ++ l ++ [10] ∧ (Fl.cat (L.take k)).length + l.length + 1 ≤ (Fl.cat L).length := by
  obtain ⟨hk, rfl⟩ := List.getElem?_eq_some_iff.1 h
  have e : Fl.cat (L.take (k + 1)) = Fl.cat (L.take k) ++ L[k] ++ [10] := by
    rw [List.take_succ_eq_append_getElem hk, Fl.cat_append]; simp [Fl.cat]
  refine ⟨e, ?_⟩
  have e2 : (Fl.cat L).length = (Fl.cat (L.take (k + 1))).length + (Fl.cat (L.drop (k + 1))).length := by
    conv => lhs; rw [← List.take_append_drop (k + 1) L, Fl.cat_append, List.length_append]
  rw [e] at e2
  simp at e2; omega
theorem print_steps {r : FlowP} (hv : Fl.valid r.f = true) (i : Nat) (h : i < r.P.length) : (Fl.bodies r.f)[1 + i]? = some (Lib.join (Fl.stepWords i r.P[i].s) [32]) ∧ Fl.StepOk 40 r.P[i].s := by
  have e1 : r.f.steps.length = r.P.length := by simp [FlowP.f]
  have hi : i < r.f.steps.length := by omega
  have h1 := Fl.bodies_step r.f i hi
  have h2 : r.f.steps[i] = r.P[i].s := by simp [FlowP.f, stepsOf]
  have h3 := (Fl.valid_iff.1 hv).steps _ (List.getElem_mem hi)
  have h4 := (Fl.valid_iff.1 hv).len
  rw [h2] at h1 h3
  exact ⟨h1, h3.mono (by omega)⟩
theorem print_wins {r : FlowP} (hv : Fl.valid r.f = true) (i : Nat) (h : i < r.W.length) : (Fl.bodies r.f)[1 + r.P.length + i]? = some (Lib.join (Fl.winWords r.W[i]) [32]) ∧ Fl.vWin 40 r.W[i] = true := by
  have e1 : r.f.steps.length = r.P.length := by simp [FlowP.f]
  have h1 := Fl.bodies_win r.f i h
  have h3 := Fl.vWinsFrom_all (Fl.valid_iff.1 hv).wins _ (List.getElem_mem (l := r.f.wins) h)
  have h4 := (Fl.valid_iff.1 hv).len
  rw [e1] at h1
  exact ⟨h1, Fl.vWin_mono (by omega) h3⟩

set_option maxRecDepth 100000 in
set_option maxHeartbeats 8000000 in
theorem refPrint_any (q : FlowP) (w : World) (hq : q.ok w) : Calls Tryz.prog 17 #[q.v] w fun e w' => e = .returned (.tuple #[.string (bs (printS q.f)), .int .i64 (printE q.f)]) ∧ Below w.heap.size w w' := by
  have hb0 := below_new w (flowBox q)
  have QK := Lib.hid (hq.below hb0)
  have HF := Lib.hid (heap_alloc_new w (flowBox q))
  have G1 := Lib.hid hb0
  have VA := Lib.hid (fun w1 h => refValid_any q w1 h)
  clear hq hb0
  by_cases hv : Fl.valid q.f = true
  rotate_left
  · have e1 : printS q.f = [] := if_neg hv
    have e2 : printE q.f = 40 := if_neg hv
    have hv' : Fl.valid q.f = false := by simpa using hv
    rw [hv'] at VA
    rw [e1, e2]
    clear hv hv' e1 e2
    go_enter Tryz.func17, Tryz.ntmps17
    go_wp2_with fail
    generalize w.alloc (flowBox q) = w1 at *
    have a0 := block_cell HF.out 0 _ rfl
    have a1 := block_cell HF.out 1 _ rfl
    have a2 := block_cell HF.out 2 _ rfl
    have a3 := block_cell HF.out 3 _ rfl
    go_wp2_with fail
    refine (VA.out _ QK.out).mono ?_; rintro e w2 ⟨rfl, g2⟩
    have G2 := Lib.hid (below_step G1.out g2)
    clear g2
    go_wp2_with fail
    go_ret2
    exact ⟨rfl, G2.out⟩
  have e1 : printS q.f = Fl.text q.f := if_pos hv
  have e2 : printE q.f = 0 := if_pos hv
  have hm := Fl.vMoves_iff.1 (Fl.valid_iff.1 hv).moves
  have hcat := Fl.text_cat q.f
  have hts := Fl.text_short hv
  have HST := Lib.hid (print_steps hv)
  have HWI := Lib.hid (print_wins hv)
  have hP40 : q.P.length ≤ 40 := by have := (Fl.valid_iff.1 hv).len; simpa [FlowP.f] using this
  have hW20 : q.W.length ≤ 20 := (Fl.valid_iff.1 hv).wlen
  have hD0 : (Fl.bodies q.f)[0]? = some (Lib.join (Fl.moveWords q.least q.most) [32]) := rfl
  have hDl : (Fl.bodies q.f).length = 1 + q.P.length + q.W.length := by rw [Fl.bodies_length]; simp [FlowP.f]
  rw [hv] at VA
  rw [hcat] at hts e1
  rw [e1, e2]
  clear hv e1 e2 hcat
  obtain ⟨hn0, hl0⟩ := cat_next (Fl.bodies q.f) 0 _ hD0
  generalize Fl.bodies q.f = D at *
  obtain ⟨lo, hi, sa, sc, P, va, vc, V⟩ := q
  simp only at HST HWI hP40 hW20 hD0 hDl hn0 hl0
  have hm : 0 ≤ lo ∧ lo ≤ hi ∧ hi ≤ 10000 := hm
  have I1 := Lib.hid (fun w => refDigits_any lo w (by omega) (by omega))
  have I2 := Lib.hid (fun w => refDigits_any hi w (by omega) (by omega))
  have n1 := Fl.itoa_len10 (n := lo) (by omega) (by omega)
  have n2 := Fl.itoa_len10 (n := hi) (by omega) (by omega)
  have hM : ((((([109, 111, 118, 101, 32] ++ Lib.itoa lo) ++ [46, 46]) ++ Lib.itoa hi) ++ [10]) : List UInt8) = Fl.cat (D.take 1) := by
    rw [hn0]; simp [Fl.moveWords, Fl.wMove, Fl.span, Lib.join_cons, Lib.joinTail, Fl.cat]
  clear hn0 hl0 hD0
  generalize Lib.itoa lo = d1 at *
  generalize Lib.itoa hi = d2 at *
  have m1 := add_bs [109, 111, 118, 101, 32] d1 (by simp; omega)
  have m2 := add_bs ([109, 111, 118, 101, 32] ++ d1) [46, 46] (by simp; omega)
  have m3 := add_bs (([109, 111, 118, 101, 32] ++ d1) ++ [46, 46]) d2 (by simp; omega)
  have m4 := add_bs ((([109, 111, 118, 101, 32] ++ d1) ++ [46, 46]) ++ d2) [10] (by simp; omega)
  clear n1 n2
  generalize [109, 111, 118, 101, 32] ++ d1 = u1 at *
  generalize u1 ++ [46, 46] = u2 at *
  generalize u2 ++ d2 = u3 at *
  rw [hM] at m4
  clear hM
  go_enter Tryz.func17, Tryz.ntmps17
  go_upto_region 1 with (fail)
  generalize w.alloc (flowBox ⟨lo, hi, sa, sc, P, va, vc, V⟩) = w1 at *
  have a0 := block_cell HF.out 0 _ rfl
  have a1 := block_cell HF.out 1 _ rfl
  have a2 := block_cell HF.out 2 _ rfl
  have a3 := block_cell HF.out 3 _ rfl
  go_wp2_with fail
  refine (VA.out _ QK.out).mono ?_; rintro e w2 ⟨rfl, g2⟩
  have a0 := cell_below g2 a0
  have a1 := cell_below g2 a1
  have a2 := cell_below g2 a2
  have a3 := cell_below g2 a3
  have G2 := Lib.hid (below_step G1.out g2)
  have QK2 := Lib.hid (QK.out.below g2)
  clear g2 QK VA HF G1
  go_upto_region 3 with (fail)
  refine wp_region_held_drew (S := (fun v => Below w2.heap.size w2 v)) (by kernel_rfl) ((Below.refl w2.heap.size w2).drew) (fun hHeld => ?_)
  refine wpAnyH_take (i := 0) (oi := { dst := some 10, op := Op.fieldAddr 25 (Operand.tmp 1) 0, type := 0, pos := "ref.go:136", after := #[], guard := none }) (v := ?vm_0) rfl (by kernel_rfl) (by kernel_rfl) (by kernel_rfl) (fun _ _ _ h => h) (Or.inl ⟨by rfl, ?ym_0⟩) (by assumption) ?tm_0
  case ym_0 => (intro w hSw; try dsimp only at hSw); go_simp; try with_reducible rfl
  simp only [Act.put, List.setIfInBounds_toArray, List.set_cons_zero, List.set_cons_succ]
  refine wpAnyH_take (i := 1) (oi := { dst := some 11, op := Op.load 3 (Operand.tmp 10), type := 3, pos := "ref.go:136", after := #[{ on := 0, ground := Ground.data }], guard := none }) (v := ?vm_1) rfl (by kernel_rfl) (by kernel_rfl) (by kernel_rfl) (fun _ _ _ h => h) (Or.inl ⟨by rfl, ?ym_1⟩) (by assumption) ?tm_1
  case ym_1 => (intro w hSw; have h0 := cell_below hSw a0); go_simp; try with_reducible rfl
  simp only [Act.put, List.setIfInBounds_toArray, List.set_cons_zero, List.set_cons_succ]
  refine wpAnyH_take (i := 5) (oi := { dst := some 15, op := Op.fieldAddr 25 (Operand.tmp 1) 1, type := 0, pos := "ref.go:136", after := #[], guard := none }) (v := ?vm_5) rfl (by kernel_rfl) (by kernel_rfl) (by kernel_rfl) (fun _ _ _ h => h) (Or.inl ⟨by rfl, ?ym_5⟩) (by assumption) ?tm_5
  case ym_5 => (intro w hSw; try dsimp only at hSw); go_simp; try with_reducible rfl
  simp only [Act.put, List.setIfInBounds_toArray, List.set_cons_zero, List.set_cons_succ]
  refine wpAnyH_take (i := 6) (oi := { dst := some 16, op := Op.load 3 (Operand.tmp 15), type := 3, pos := "ref.go:136", after := #[{ on := 5, ground := Ground.data }], guard := none }) (v := ?vm_6) rfl (by kernel_rfl) (by kernel_rfl) (by kernel_rfl) (fun _ _ _ h => h) (Or.inl ⟨by rfl, ?ym_6⟩) (by assumption) ?tm_6
  case ym_6 => (intro w hSw; have h0 := cell_below hSw a1); go_simp; try with_reducible rfl
  simp only [Act.put, List.setIfInBounds_toArray, List.set_cons_zero, List.set_cons_succ]
  refine wpAnyH_ready (rs := [2]) (by kernel_rfl) (by simp) ?_
  refine AllReadyH.cons (o := { dst := some 12, op := Op.call { callee := Callee.value (Operand.func 33), args := #[Operand.tmp 11], argTypes := #[3] }, type := 9, pos := "ref.go:136", after := #[{ on := 1, ground := Ground.data }], guard := none }) rfl (fun K hK => ?_) AllReadyH.nil
  go_simp
  refine (I1.out _).mono ?_; rintro e wz ⟨rfl, gz⟩
  have hSz := below_step hHeld gz
  clear gz
  refine hK.out _ _ (hSz) (fun hHeld' => ?_)
  clear hK K hHeld
  have hHeld := hHeld'; clear hHeld'
  try simp only [Act.put, List.setIfInBounds_toArray, List.set_cons_zero, List.set_cons_succ]
  refine wpAnyH_take (i := 3) (oi := { dst := some 13, op := Op.binOp BinOp.add 9 (Operand.const (Value.string { data := #[109, 111, 118, 101, 32] })) (Operand.tmp 12) 9, type := 9, pos := "ref.go:136", after := #[{ on := 2, ground := Ground.data }], guard := none }) (v := ?vm_3) rfl (by kernel_rfl) (by kernel_rfl) (by kernel_rfl) (fun _ _ _ h => h) (Or.inl ⟨by rfl, ?ym_3⟩) (by assumption) ?tm_3
  case ym_3 => (intro w hSw; try dsimp only at hSw); go_simp; try with_reducible rfl
  simp only [Act.put, List.setIfInBounds_toArray, List.set_cons_zero, List.set_cons_succ]
  refine wpAnyH_take (i := 4) (oi := { dst := some 14, op := Op.binOp BinOp.add 9 (Operand.tmp 13) (Operand.const (Value.string { data := #[46, 46] })) 9, type := 9, pos := "ref.go:136", after := #[{ on := 3, ground := Ground.data }], guard := none }) (v := ?vm_4) rfl (by kernel_rfl) (by kernel_rfl) (by kernel_rfl) (fun _ _ _ h => h) (Or.inl ⟨by rfl, ?ym_4⟩) (by assumption) ?tm_4
  case ym_4 => (intro w hSw; try dsimp only at hSw); go_simp; try with_reducible rfl
  simp only [Act.put, List.setIfInBounds_toArray, List.set_cons_zero, List.set_cons_succ]
  refine wpAnyH_ready (rs := [7]) (by kernel_rfl) (by simp) ?_
  refine AllReadyH.cons (o := { dst := some 17, op := Op.call { callee := Callee.value (Operand.func 33), args := #[Operand.tmp 16], argTypes := #[3] }, type := 9, pos := "ref.go:136", after := #[{ on := 6, ground := Ground.data }, { on := 2, ground := Ground.chain }], guard := none }) rfl (fun K hK => ?_) AllReadyH.nil
  go_simp
  refine (I2.out _).mono ?_; rintro e wz ⟨rfl, gz⟩
  have hSz := below_step hHeld gz
  clear gz
  refine hK.out _ _ (hSz) (fun hHeld' => ?_)
  clear hK K hHeld
  have hHeld := hHeld'; clear hHeld'
  try simp only [Act.put, List.setIfInBounds_toArray, List.set_cons_zero, List.set_cons_succ]
  refine wpAnyH_take (i := 8) (oi := { dst := some 18, op := Op.binOp BinOp.add 9 (Operand.tmp 14) (Operand.tmp 17) 9, type := 9, pos := "ref.go:136", after := #[{ on := 4, ground := Ground.data }, { on := 7, ground := Ground.data }], guard := none }) (v := ?vm_8) rfl (by kernel_rfl) (by kernel_rfl) (by kernel_rfl) (fun _ _ _ h => h) (Or.inl ⟨by rfl, ?ym_8⟩) (by assumption) ?tm_8
  case ym_8 => (intro w hSw; try dsimp only at hSw); go_simp; try with_reducible rfl
  simp only [Act.put, List.setIfInBounds_toArray, List.set_cons_zero, List.set_cons_succ]
  refine wpAnyH_take (i := 9) (oi := { dst := some 19, op := Op.binOp BinOp.add 9 (Operand.tmp 18) (Operand.const (Value.string { data := #[10] })) 9, type := 9, pos := "ref.go:136", after := #[{ on := 8, ground := Ground.data }], guard := none }) (v := ?vm_9) rfl (by kernel_rfl) (by kernel_rfl) (by kernel_rfl) (fun _ _ _ h => h) (Or.inl ⟨by rfl, ?ym_9⟩) (by assumption) ?tm_9
  case ym_9 => (intro w hSw; try dsimp only at hSw); go_simp; try with_reducible rfl
  simp only [Act.put, List.setIfInBounds_toArray, List.set_cons_zero, List.set_cons_succ]
  refine wpAnyH_take (i := 10) (oi := { dst := some 4, op := Op.assign (Operand.tmp 19), type := 9, pos := "ref.go:136", after := #[{ on := 9, ground := Ground.data }, { on := 7, ground := Ground.chain }, { on := 0, ground := Ground.phase }, { on := 1, ground := Ground.phase }, { on := 2, ground := Ground.phase }, { on := 3, ground := Ground.phase }, { on := 4, ground := Ground.phase }, { on := 5, ground := Ground.phase }, { on := 6, ground := Ground.phase }, { on := 7, ground := Ground.phase }, { on := 8, ground := Ground.phase }, { on := 9, ground := Ground.phase }], guard := none }) (v := ?vm_10) rfl (by kernel_rfl) (by kernel_rfl) (by kernel_rfl) (fun _ _ _ h => h) (Or.inl ⟨by rfl, ?ym_10⟩) (by assumption) ?tm_10
  case ym_10 => (intro w hSw; try dsimp only at hSw); go_simp; try with_reducible rfl
  simp only [Act.put, List.setIfInBounds_toArray, List.set_cons_zero, List.set_cons_succ]
  refine wpAnyH_done (by kernel_rfl) ?_ _
  have HB := Lib.hid hHeld
  clear hHeld m1 m2 m3 m4 I1 I2
  have b2 := cell_below HB.out a2
  go_wp2_with fail
  clear b2
  go_loopg [4, 5] (P.length) (fun g s i wr => ∃ k : Nat, k ≤ P.length ∧ g = P.length - k ∧ s = .string (bs (Fl.cat (D.take (1 + k)))) ∧ i = .int .i64 (k : Int) ∧ Hid (Below w2.heap.size w2 wr))
  case atStart => exact ⟨0, by omega, by omega, rfl, rfl, HB⟩
  case round =>
    obtain ⟨k, hk, rfl, rfl, rfl, HB⟩ := hrel
    have b2 := cell_below HB.out a2
    by_cases hlt : k < P.length
    · obtain ⟨b, off, e5, hb, hAt, hok⟩ := (QK2.out.1.below HB.out).2.2 k hlt
      simp only at e5
      obtain ⟨hd, hs⟩ := HST.out k hlt
      obtain ⟨hn, hl⟩ := cat_next D (1 + k) _ hd
      have HSL := Lib.hid (fun w hp => refStepLine_any (k : Int) (P[k]'hlt) w hp hs (by omega))
      have HOK := Lib.hid hok
      have e9 : IntKind.i64.wrap ((k : Int) + 1) = (k : Int) + 1 := IntWalk.i64_in _ (by omega)
      clear hd hs hok
      generalize Lib.join (Fl.stepWords (k : Int) P[k].s) [32] = U at *
      have m1 := add_bs (Fl.cat (D.take (1 + k))) U (by omega)
      have m2 := add_bs (Fl.cat (D.take (1 + k)) ++ U) [10] (by simp; omega)
      rw [← hn] at m2
      clear hn hl
      generalize hs3 : Fl.cat (D.take (1 + k + 1)) = s3 at *
      have HS3 := Lib.hid hs3; clear hs3
      generalize Fl.cat (D.take (1 + k)) = s1 at *
      generalize s1 ++ U = s2 at *
      generalize P[k] = p at *
      obtain ⟨⟨rc, tl, mn, mx, nx, bk, lm⟩, ta, tc, na, nc⟩ := p
      obtain ⟨c0, c1, c2, c3, c4, c5, c6⟩ := hAt
      subst e5
      simp only at c0 c1 c2 c3 c4 c5 c6
      go_wp2_with fail
      refine (HSL.out _ HOK.out).mono ?_; rintro e w3 ⟨rfl, g3⟩
      have G3 := Lib.hid (below_step HB.out g3)
      clear g3 c0 c1 c2 c3 c4 c5 c6 b2
      go_wp2_with fail
      go_roundg (P.length - (k + 1))
      case rel => exact ⟨k + 1, hlt, rfl, by rw [← HS3.out]; rfl, by go_num, G3⟩
      case measure => omega
    · obtain rfl : k = P.length := by omega
      go_wp2_with fail
      clear b2
      go_loopg [4, 6] (V.length) (fun g s i wr => ∃ k : Nat, k ≤ V.length ∧ g = V.length - k ∧ s = .string (bs (Fl.cat (D.take (1 + P.length + k)))) ∧ i = .int .i64 (k : Int) ∧ Hid (Below w2.heap.size w2 wr))
      case atStart => exact ⟨0, by omega, by omega, rfl, rfl, HB⟩
      case round =>
        obtain ⟨k, hk, rfl, rfl, rfl, HB⟩ := hrel
        have b3 := cell_below HB.out a3
        by_cases hlt : k < V.length
        · obtain ⟨b, off, e5, hb, hAt⟩ := (QK2.out.2.below HB.out).2.2 k hlt
          simp only at e5
          obtain ⟨hd, hs⟩ := HWI.out k hlt
          obtain ⟨hn, hl⟩ := cat_next D (1 + P.length + k) _ hd
          have HSL := Lib.hid (fun w => refWindowLine_any (V[k]'hlt) w hs)
          have e9 : IntKind.i64.wrap ((k : Int) + 1) = (k : Int) + 1 := IntWalk.i64_in _ (by omega)
          clear hd hs
          generalize Lib.join (Fl.winWords V[k]) [32] = U at *
          have m1 := add_bs (Fl.cat (D.take (1 + P.length + k))) U (by omega)
          have m2 := add_bs (Fl.cat (D.take (1 + P.length + k)) ++ U) [10] (by simp; omega)
          rw [← hn] at m2
          clear hn hl
          generalize hs3 : Fl.cat (D.take (1 + P.length + k + 1)) = s3 at *
          have HS3 := Lib.hid hs3; clear hs3
          generalize Fl.cat (D.take (1 + P.length + k)) = s1 at *
          generalize s1 ++ U = s2 at *
          generalize V[k] = v at *
          obtain ⟨x, y, z⟩ := v
          obtain ⟨c0, c1, c2⟩ := hAt
          subst e5
          simp only at c0 c1 c2
          go_wp2_with fail
          refine (HSL.out _).mono ?_; rintro e w3 ⟨rfl, g3⟩
          have G3 := Lib.hid (below_step HB.out g3)
          clear g3 c0 c1 c2 b3
          go_wp2_with fail
          go_roundg (V.length - (k + 1))
          case rel => exact ⟨k + 1, hlt, rfl, by rw [← HS3.out]; rfl, by go_num, G3⟩
          case measure => omega
        · obtain rfl : k = V.length := by omega
          have HE : Hid (D.take (1 + P.length + V.length) = D) := Lib.hid (by rw [← hDl, List.take_length])
          rw [HE.out]
          go_wp2_with fail
          go_ret2
          exact ⟨rfl, below_step G2.out HB.out⟩
end Go.Proofs.YtblnfcffalaeaaaGreatDoor

namespace Go.Proofs.YtblnfcffalaeaaaGreatDoor
open Go.RowKit Go.Shelf

theorem take_eq_of {α : Type} {L M : List α} {k : Nat} (h : L.take k = M.take k) (hl : L.length = M.length) (hk : ¬ k < L.length) : L = M := by
  rwa [List.take_of_length_le (by omega), List.take_of_length_le (by omega)] at h
theorem take_succ_eq {α : Type} {L M : List α} {k : Nat} (h : L.take k = M.take k) (h1 : k < L.length) (h2 : k < M.length) (e : L[k] = M[k]) : L.take (k + 1) = M.take (k + 1) := by
  rw [List.take_succ_eq_append_getElem h1, List.take_succ_eq_append_getElem h2, h, e]
set_option maxHeartbeats 1000000 in
theorem refSameInts_any (L M : List Int) (a : Option Addr) (c : Nat) (b : Option Addr) (d : Nat) (w : World) (hL : IntA w a c L) (hM : IntA w b d M) :
    Calls Tryz.prog 41 #[.slice a L.length c, .slice b M.length d] w fun e w' => e = .returned (.bool (decide (L = M))) ∧ Below w.heap.size w w' := by
  have hmx : L.length ≤ maxLen := Nat.le_trans hL.1 hL.2.1
  unfold maxLen at hmx
  have HL := Lib.hid hL; have HM := Lib.hid hM
  clear hL hM
  by_cases hl : L.length = M.length
  · have hl' : ((L.length : Int) == (M.length : Int)) = true := by rw [beq_iff_eq]; omega
    have HE := Lib.hid hl
    go_enter Tryz.func41, Tryz.ntmps41
    go_wp2_with fail
    clear hl'
    go_loopg [5] (L.length) (fun g i wr => ∃ k : Nat, k ≤ L.length ∧ g = L.length - k ∧ i = .int .i64 (k : Int) ∧ Hid (Below w.heap.size w wr) ∧ Hid (L.take k = M.take k))
    case atStart => exact ⟨0, by omega, by omega, rfl, Lib.hid (Below.refl _ _), Lib.hid rfl⟩
    case round =>
      obtain ⟨k, hk, rfl, rfl, HB, HR⟩ := hrel
      by_cases hlt : k < L.length
      · have hlt2 : k < M.length := by omega
        obtain ⟨b1, o1, e1, _, h1⟩ := (HL.out.below HB.out).2.2 k hlt
        obtain ⟨b2, o2, e2, _, h2⟩ := (HM.out.below HB.out).2.2 k hlt2
        have HN := Lib.hid (fun e => take_succ_eq HR.out hlt hlt2 e)
        have HX : Hid (L[k] ≠ M[k] → ¬ L = M) := Lib.hid (by rintro h rfl; exact h rfl)
        have e9 : IntKind.i64.wrap ((k : Int) + 1) = (k : Int) + 1 := IntWalk.i64_in _ (by omega)
        clear hl
        generalize L[k] = x at *
        generalize M[k] = y at *
        subst e1 e2
        by_cases hxy : x = y
        · have hxy' : (x == y) = true := by simpa using hxy
          have HN2 := Lib.hid (HN.out hxy)
          clear hxy
          go_upto_region 6 with (fail)
          go_quiet (fail)
          go_wp2_with fail
          go_roundg (L.length - (k + 1))
          case rel => exact ⟨k + 1, hlt, rfl, by go_num, Lib.hid (below_drewN HB.out _), HN2⟩
          case measure => omega
        · have hxy' : (x == y) = false := by simpa using hxy
          have HF := Lib.hid (HX.out hxy)
          clear hxy
          go_upto_region 6 with (fail)
          go_quiet (fail)
          go_wp2_with fail
          go_ret
          exact ⟨ret_bool (decide_eq_false HF.out).symm, below_drewN HB.out _⟩
      · have HT := Lib.hid (take_eq_of HR.out hl hlt)
        clear hl
        go_wp2_with fail
        go_ret
        exact ⟨ret_bool (decide_eq_true HT.out).symm, HB.out⟩
  · have hl' : ((L.length : Int) == (M.length : Int)) = false := by rw [beq_eq_false_iff_ne]; omega
    have HF : Hid (¬ L = M) := Lib.hid (by rintro rfl; exact hl rfl)
    clear hl
    go_enter Tryz.func41, Tryz.ntmps41
    go_wp2_with fail
    go_ret
    exact ⟨ret_bool (decide_eq_false HF.out).symm, Below.refl _ _⟩
theorem same_len {q r : FlowP} (h : q.f = r.f) : q.least = r.least ∧ q.most = r.most ∧ q.P.length = r.P.length ∧ q.W.length = r.W.length := by
  have h1 := congrArg Fl.Flow.least h
  have h2 := congrArg Fl.Flow.most h
  have h3 := congrArg (fun f => f.steps.length) h
  have h4 := congrArg (fun f => f.wins.length) h
  exact ⟨h1, h2, by simpa [FlowP.f] using h3, h4⟩
theorem same_step {q r : FlowP} (h : q.f = r.f) (k : Nat) (h1 : k < q.P.length) (h2 : k < r.P.length) : q.P[k].s = r.P[k].s := by
  have h3 := congrArg Fl.Flow.steps h
  have : (stepsOf q.P)[k]? = (stepsOf r.P)[k]? := by show q.f.steps[k]? = r.f.steps[k]?; rw [h3]
  simpa [stepsOf, h1, h2] using this
theorem same_win {q r : FlowP} (h : q.f = r.f) (k : Nat) (h1 : k < q.W.length) (h2 : k < r.W.length) : q.W[k] = r.W[k] := by
  have h3 : q.W = r.W := congrArg Fl.Flow.wins h
  have : q.W[k]? = r.W[k]? := by rw [h3]
  simpa [h1, h2] using this
theorem same_of {q r : FlowP} (h1 : q.least = r.least) (h2 : q.most = r.most) (h3 : stepsOf q.P = stepsOf r.P) (h4 : q.W = r.W) : q.f = r.f := by
  unfold FlowP.f; rw [h1, h2, h3, h4]

set_option maxRecDepth 100000 in
set_option maxHeartbeats 8000000 in
theorem refSame_any (q r : FlowP) (w : World) (hq : q.ok w) (hr : r.ok w) : Calls Tryz.prog 20 #[q.v, r.v] w fun e w' => e = .returned (.bool (decide (q.f = r.f))) ∧ Below w.heap.size w w' := by
  have HX := Lib.hid (fun h => same_len (q := q) (r := r) h)
  have HS := Lib.hid (fun h => same_step (q := q) (r := r) h)
  have HW := Lib.hid (fun h => same_win (q := q) (r := r) h)
  have HO := Lib.hid (fun h1 h2 h3 h4 => same_of (q := q) (r := r) h1 h2 h3 h4)
  have hB := below_step (below_new w (flowBox q)) (below_new (w.alloc (flowBox q)) (flowBox r))
  have QK := Lib.hid (hq.below hB); have RK := Lib.hid (hr.below hB)
  obtain ⟨lo, hi, sa, sc, P, va, vc, V⟩ := q
  obtain ⟨lo', hi', sa', sc', P', va', vc', V'⟩ := r
  have hmP : P.length ≤ maxLen := Nat.le_trans hq.1.1 hq.1.2.1
  have hmV : V.length ≤ maxLen := Nat.le_trans hq.2.1 hq.2.2.1
  unfold maxLen at hmP hmV
  have BF : Hid (((w.alloc (flowBox ⟨lo, hi, sa, sc, P, va, vc, V⟩)).alloc (flowBox ⟨lo', hi', sa', sc', P', va', vc', V'⟩)).heap[w.heap.size]? = some (flowBox ⟨lo, hi, sa, sc, P, va, vc, V⟩)) := Lib.hid (heap_alloc_old _ _ _ _ (heap_alloc_new _ _))
  have BR : Hid (((w.alloc (flowBox ⟨lo, hi, sa, sc, P, va, vc, V⟩)).alloc (flowBox ⟨lo', hi', sa', sc', P', va', vc', V'⟩)).heap[w.heap.size + 1]? = some (flowBox ⟨lo', hi', sa', sc', P', va', vc', V'⟩)) := Lib.hid (by
    have := heap_alloc_new (w.alloc (flowBox ⟨lo, hi, sa, sc, P, va, vc, V⟩)) (flowBox ⟨lo', hi', sa', sc', P', va', vc', V'⟩)
    rw [show (w.alloc (flowBox ⟨lo, hi, sa, sc, P, va, vc, V⟩)).heap.size = w.heap.size + 1 by simp] at this; exact this)
  have G1 := Lib.hid hB
  simp only at HX HS HW HO
  generalize hD : decide (FlowP.f ⟨lo, hi, sa, sc, P, va, vc, V⟩ = FlowP.f ⟨lo', hi', sa', sc', P', va', vc', V'⟩) = D at *
  have HD := Lib.hid hD
  clear hD hq hr hB
  go_enter Tryz.func20, Tryz.ntmps20
  go_upto_region 1 with (fail)
  generalize (w.alloc (flowBox ⟨lo, hi, sa, sc, P, va, vc, V⟩)).alloc (flowBox ⟨lo', hi', sa', sc', P', va', vc', V'⟩) = w1 at *
  have a0 := block_cell BF.out 0 _ rfl
  have a1 := block_cell BF.out 1 _ rfl
  have a2 := block_cell BF.out 2 _ rfl
  have a3 := block_cell BF.out 3 _ rfl
  have d0 := block_cell BR.out 0 _ rfl
  have d1 := block_cell BR.out 1 _ rfl
  have d2 := block_cell BR.out 2 _ rfl
  have d3 := block_cell BR.out 3 _ rfl
  by_cases h0 : lo = lo'
  rotate_left
  · have h0' : (lo != lo') = true := by rw [bne_iff_ne]; omega
    have HF : Hid (D = false) := Lib.hid (by rw [← HD.out]; exact decide_eq_false fun h => h0 (HX.out h).1)
    clear h0
    go_wp2_with fail
    go_ret
    exact ⟨ret_bool HF.out.symm, G1.out⟩
  have h0' : (lo != lo') = false := by rw [bne_eq_false_iff_eq]; omega
  have H0 := Lib.hid h0
  clear h0
  by_cases h1 : hi = hi'
  rotate_left
  · have h1' : (hi != hi') = true := by rw [bne_iff_ne]; omega
    have HF : Hid (D = false) := Lib.hid (by rw [← HD.out]; exact decide_eq_false fun h => h1 (HX.out h).2.1)
    clear h1
    go_wp2_with fail
    go_ret
    exact ⟨ret_bool HF.out.symm, G1.out⟩
  have h1' : (hi != hi') = false := by rw [bne_eq_false_iff_eq]; omega
  have H1 := Lib.hid h1
  clear h1
  by_cases h2 : P.length = P'.length
  rotate_left
  · have h2' : ((P.length : Int) != (P'.length : Int)) = true := by rw [bne_iff_ne]; omega
    have HF : Hid (D = false) := Lib.hid (by rw [← HD.out]; exact decide_eq_false fun h => h2 (HX.out h).2.2.1)
    clear h2
    go_wp2_with fail
    go_ret
    exact ⟨ret_bool HF.out.symm, G1.out⟩
  have h2' : ((P.length : Int) != (P'.length : Int)) = false := by rw [bne_eq_false_iff_eq]; omega
  have H2 := Lib.hid h2
  clear h2
  by_cases h3 : V.length = V'.length
  rotate_left
  · have h3' : ((V.length : Int) != (V'.length : Int)) = true := by rw [bne_iff_ne]; omega
    have HF : Hid (D = false) := Lib.hid (by rw [← HD.out]; exact decide_eq_false fun h => h3 (HX.out h).2.2.2)
    clear h3
    go_wp2_with fail
    go_ret
    exact ⟨ret_bool HF.out.symm, G1.out⟩
  have h3' : ((V.length : Int) != (V'.length : Int)) = false := by rw [bne_eq_false_iff_eq]; omega
  have H3 := Lib.hid h3
  clear h3
  go_wp2_with fail
  clear h0' h1' h2' h3'
  go_loopg [5] (P.length) (fun g i wr => ∃ k : Nat, k ≤ P.length ∧ g = P.length - k ∧ i = .int .i64 (k : Int) ∧ Hid (Below w1.heap.size w1 wr) ∧ Hid ((stepsOf P).take k = (stepsOf P').take k))
  case atStart => exact ⟨0, by omega, by omega, rfl, Lib.hid (Below.refl _ _), Lib.hid rfl⟩
  case round =>
    obtain ⟨k, hk, rfl, rfl, HB, HR⟩ := hrel
    have b2 := cell_below HB.out a2
    have b2' := cell_below HB.out d2
    by_cases hlt : k < P.length
    · have hlt2 : k < P'.length := by have := H2.out; omega
      obtain ⟨b, off, e5, hb, hAt, hok⟩ := (QK.out.1.below HB.out).2.2 k hlt
      obtain ⟨b', off', e5', hb', hAt', hok'⟩ := (RK.out.1.below HB.out).2.2 k hlt2
      simp only at e5 e5'
      have HN := Lib.hid (fun e => take_succ_eq (L := stepsOf P) (M := stepsOf P') HR.out (by simpa using hlt) (by simpa using hlt2) e)
      have HSk := Lib.hid (fun h => HS.out h k hlt hlt2)
      simp only [stepsOf, List.getElem_map] at HN HSk
      have HOK := Lib.hid hok; have HOK' := Lib.hid hok'
      have e9 : IntKind.i64.wrap ((k : Int) + 1) = (k : Int) + 1 := IntWalk.i64_in _ (by omega)
      clear hok hok'
      generalize P[k] = p at *
      generalize P'[k] = p' at *
      obtain ⟨⟨rc, tl, mn, mx, nx, bk, lm⟩, ta, tc, na, nc⟩ := p
      obtain ⟨⟨rc', tl', mn', mx', nx', bk', lm'⟩, ta', tc', na', nc'⟩ := p'
      obtain ⟨c0, c1, c2, c3, c4, c5, c6⟩ := hAt
      obtain ⟨f0, f1, f2, f3, f4, f5, f6⟩ := hAt'
      subst e5 e5'
      simp only at c0 c1 c2 c3 c4 c5 c6 f0 f1 f2 f3 f4 f5 f6 HN HSk
      have g0 := below_new wr (.cells #[.int .i64 rc, .slice ta tl.length tc, .int .i64 mn, .int .i64 mx, .slice na nx.length nc, .int .i64 bk, .int .i64 lm] 55)
      have OKA : Hid (IntA wr ta tc tl ∧ IntA wr na nc nx ∧ IntA wr ta' tc' tl' ∧ IntA wr na' nc' nx') := Lib.hid ⟨HOK.out.1, HOK.out.2, HOK'.out.1, HOK'.out.2⟩
      have OKB : Hid (∀ v, Below wr.heap.size wr v → IntA v ta tc tl ∧ IntA v na nc nx ∧ IntA v ta' tc' tl' ∧ IntA v na' nc' nx') := Lib.hid fun v hv => ⟨OKA.out.1.below hv, OKA.out.2.1.below hv, OKA.out.2.2.1.below hv, OKA.out.2.2.2.below hv⟩
      have OKC := Lib.hid (fun v hv => OKB.out v (below_step g0 hv))
      have G0 := Lib.hid g0
      have f0 := cell_below g0 f0
      have f1 := cell_below g0 f1
      have f2 := cell_below g0 f2
      have f3 := cell_below g0 f3
      have f4 := cell_below g0 f4
      have f5 := cell_below g0 f5
      have f6 := cell_below g0 f6
      have b2' := cell_below g0 b2'
      go_upto_region 7 with (fail)
      have S1 := heap_alloc_new wr (.cells #[.int .i64 rc, .slice ta tl.length tc, .int .i64 mn, .int .i64 mx, .slice na nx.length nc, .int .i64 bk, .int .i64 lm] 55)
      have B1 := Lib.hid (below_step HB.out g0)
      clear c0 c1 c2 c3 c4 c5 c6 g0
      generalize wr.alloc (.cells #[.int .i64 rc, .slice ta tl.length tc, .int .i64 mn, .int .i64 mx, .slice na nx.length nc, .int .i64 bk, .int .i64 lm] 55) = w2 at *
      generalize wr.heap.size = Z1 at *
      go_upto_region 8 with (fail)
      have S2 := heap_alloc_new w2 (.cells #[.int .i64 rc', .slice ta' tl'.length tc', .int .i64 mn', .int .i64 mx', .slice na' nx'.length nc', .int .i64 bk', .int .i64 lm'] 55)
      have g1 := below_new w2 (.cells #[.int .i64 rc', .slice ta' tl'.length tc', .int .i64 mn', .int .i64 mx', .slice na' nx'.length nc', .int .i64 bk', .int .i64 lm'] 55)
      have S1' := (g1.block _ (lt_of_block S1)).trans S1
      have B2 := Lib.hid (below_step B1.out g1)
      have OK2 := Lib.hid (fun v hv => OKC.out v (below_step g1 hv))
      clear f0 f1 f2 f3 f4 f5 f6 g1
      generalize w2.alloc (.cells #[.int .i64 rc', .slice ta' tl'.length tc', .int .i64 mn', .int .i64 mx', .slice na' nx'.length nc', .int .i64 bk', .int .i64 lm'] 55) = w3 at *
      generalize w2.heap.size = Z2 at *
      have c0 := block_cell S1' 0 _ rfl
      have c1 := block_cell S1' 1 _ rfl
      have c2 := block_cell S1' 2 _ rfl
      have c3 := block_cell S1' 3 _ rfl
      have c4 := block_cell S1' 4 _ rfl
      have c5 := block_cell S1' 5 _ rfl
      have c6 := block_cell S1' 6 _ rfl
      have f0 := block_cell S2 0 _ rfl
      have f1 := block_cell S2 1 _ rfl
      have f2 := block_cell S2 2 _ rfl
      have f3 := block_cell S2 3 _ rfl
      have f4 := block_cell S2 4 _ rfl
      have f5 := block_cell S2 5 _ rfl
      have f6 := block_cell S2 6 _ rfl
      clear S1 S1' S2
      clear HOK HOK' OKA OKB OKC G0
      by_cases r0 : rc = rc'
      rotate_left
      · have r0' : (rc != rc') = true := by rw [bne_iff_ne]; omega
        have HF : Hid (D = false) := Lib.hid (by rw [← HD.out]; exact decide_eq_false fun h => r0 (congrArg Fl.Step.recipe (HSk.out h)))
        clear r0
        go_wp2_with fail
        go_ret
        exact ⟨ret_bool HF.out.symm, below_step G1.out B2.out⟩
      have r0' : (rc != rc') = false := by rw [bne_eq_false_iff_eq]; omega
      have R0 := Lib.hid r0
      clear r0
      by_cases r1 : mn = mn'
      rotate_left
      · have r1' : (mn != mn') = true := by rw [bne_iff_ne]; omega
        have HF : Hid (D = false) := Lib.hid (by rw [← HD.out]; exact decide_eq_false fun h => r1 (congrArg Fl.Step.least (HSk.out h)))
        clear r1
        go_wp2_with fail
        go_ret
        exact ⟨ret_bool HF.out.symm, below_step G1.out B2.out⟩
      have r1' : (mn != mn') = false := by rw [bne_eq_false_iff_eq]; omega
      have R1 := Lib.hid r1
      clear r1
      by_cases r2 : mx = mx'
      rotate_left
      · have r2' : (mx != mx') = true := by rw [bne_iff_ne]; omega
        have HF : Hid (D = false) := Lib.hid (by rw [← HD.out]; exact decide_eq_false fun h => r2 (congrArg Fl.Step.most (HSk.out h)))
        clear r2
        go_wp2_with fail
        go_ret
        exact ⟨ret_bool HF.out.symm, below_step G1.out B2.out⟩
      have r2' : (mx != mx') = false := by rw [bne_eq_false_iff_eq]; omega
      have R2 := Lib.hid r2
      clear r2
      by_cases r3 : bk = bk'
      rotate_left
      · have r3' : (bk != bk') = true := by rw [bne_iff_ne]; omega
        have HF : Hid (D = false) := Lib.hid (by rw [← HD.out]; exact decide_eq_false fun h => r3 (congrArg Fl.Step.back (HSk.out h)))
        clear r3
        go_wp2_with fail
        go_ret
        exact ⟨ret_bool HF.out.symm, below_step G1.out B2.out⟩
      have r3' : (bk != bk') = false := by rw [bne_eq_false_iff_eq]; omega
      have R3 := Lib.hid r3
      clear r3
      by_cases r4 : lm = lm'
      rotate_left
      · have r4' : (lm != lm') = true := by rw [bne_iff_ne]; omega
        have HF : Hid (D = false) := Lib.hid (by rw [← HD.out]; exact decide_eq_false fun h => r4 (congrArg Fl.Step.limit (HSk.out h)))
        clear r4
        go_wp2_with fail
        go_ret
        exact ⟨ret_bool HF.out.symm, below_step G1.out B2.out⟩
      have r4' : (lm != lm') = false := by rw [bne_eq_false_iff_eq]; omega
      have R4 := Lib.hid r4
      clear r4
      have HI1 := Lib.hid (fun w h1 h2 => refSameInts_any tl tl' ta tc ta' tc' w h1 h2)
      have HI2 := Lib.hid (fun w h1 h2 => refSameInts_any nx nx' na nc na' nc' w h1 h2)
      generalize ht : decide (tl = tl') = bt at *
      generalize hn : decide (nx = nx') = bn at *
      have HT := Lib.hid ht; have HNX := Lib.hid hn
      clear ht hn
      go_wp2_with fail
      refine (HI1.out _ (OK2.out _ (Below.refl _ _)).1 (OK2.out _ (Below.refl _ _)).2.2.1).mono ?_; rintro e w4 ⟨rfl, g4⟩
      have c4 := cell_below g4 c4
      have f4 := cell_below g4 f4
      have G4 := Lib.hid g4
      have B4 := Lib.hid (below_step B2.out g4)
      clear g4
      cases bt
      · have HF : Hid (D = false) := Lib.hid (by rw [← HD.out]; exact decide_eq_false fun h => of_decide_eq_false HT.out (congrArg Fl.Step.tools (HSk.out h)))
        go_wp2_with fail
        go_ret
        exact ⟨ret_bool HF.out.symm, below_step G1.out B4.out⟩
      go_wp2_with fail
      refine (HI2.out _ (OK2.out _ G4.out).2.1 (OK2.out _ G4.out).2.2.2).mono ?_; rintro e w5 ⟨rfl, g5⟩
      have B5 := Lib.hid (below_step B4.out g5)
      clear g5
      cases bn
      · have HF : Hid (D = false) := Lib.hid (by rw [← HD.out]; exact decide_eq_false fun h => of_decide_eq_false HNX.out (congrArg Fl.Step.next (HSk.out h)))
        go_wp2_with fail
        go_ret
        exact ⟨ret_bool HF.out.symm, below_step G1.out B5.out⟩
      have HST := Lib.hid (HN.out (by rw [R0.out, R1.out, R2.out, R3.out, R4.out, of_decide_eq_true HT.out, of_decide_eq_true HNX.out]))
      go_wp2_with fail
      go_roundg (P.length - (k + 1))
      case rel => exact ⟨k + 1, hlt, rfl, by go_num, B5, HST⟩
      case measure => omega
    · obtain rfl : k = P.length := by omega
      have HST := Lib.hid (take_eq_of (L := stepsOf P) (M := stepsOf P') HR.out (by simpa using H2.out) (by simp))
      clear HR
      go_wp2_with fail
      clear b2 b2'
      go_loopg [8] (V.length) (fun g i wr => ∃ k : Nat, k ≤ V.length ∧ g = V.length - k ∧ i = .int .i64 (k : Int) ∧ Hid (Below w1.heap.size w1 wr) ∧ Hid (V.take k = V'.take k))
      case atStart => exact ⟨0, by omega, by omega, rfl, HB, Lib.hid rfl⟩
      case round =>
        obtain ⟨k, hk, rfl, rfl, HB, HR⟩ := hrel
        have b3 := cell_below HB.out a3
        have b3' := cell_below HB.out d3
        by_cases hlt : k < V.length
        · have hlt2 : k < V'.length := by have := H3.out; omega
          obtain ⟨b, off, e5, hb, hAt⟩ := (QK.out.2.below HB.out).2.2 k hlt
          obtain ⟨b', off', e5', hb', hAt'⟩ := (RK.out.2.below HB.out).2.2 k hlt2
          simp only at e5 e5'
          have HN := Lib.hid (fun e => take_succ_eq (L := V) (M := V') HR.out hlt hlt2 e)
          have HWk := Lib.hid (fun h => HW.out h k hlt hlt2)
          have e9 : IntKind.i64.wrap ((k : Int) + 1) = (k : Int) + 1 := IntWalk.i64_in _ (by omega)
          generalize V[k] = v at *
          generalize V'[k] = u at *
          obtain ⟨x, y, z⟩ := v
          obtain ⟨x', y', z'⟩ := u
          obtain ⟨c0, c1, c2⟩ := hAt
          obtain ⟨f0, f1, f2⟩ := hAt'
          subst e5 e5'
          simp only at c0 c1 c2 f0 f1 f2
          by_cases hE : x = x' ∧ y = y' ∧ z = z'
          · obtain ⟨rfl, rfl, rfl⟩ := hE
            have HN2 := Lib.hid (HN.out rfl)
            clear HN HWk
            go_upto_region 13 with (fail)
            go_quiet (fail)
            go_wp2_with fail
            go_roundg (V.length - (k + 1))
            case rel => exact ⟨k + 1, hlt, rfl, by go_num, Lib.hid (below_drewN HB.out _), HN2⟩
            case measure => omega
          · have HF : Hid (D = false) := Lib.hid (by rw [← HD.out]; exact decide_eq_false fun h => hE (by have := HWk.out h; injection this with q1 q2 q3; exact ⟨q1, q2, q3⟩))
            clear HWk HN
            rcases (by omega : x ≠ x' ∨ (x = x' ∧ y ≠ y') ∨ (x = x' ∧ y = y' ∧ z ≠ z')) with hx | ⟨rfl, hx⟩ | ⟨rfl, rfl, hx⟩
            all_goals
              clear hE
              go_upto_region 13 with (fail)
              go_quiet (fail)
              go_wp2_with fail
              go_ret
              exact ⟨ret_bool HF.out.symm, below_step G1.out (below_drewN HB.out _)⟩
        · have HVV := Lib.hid (take_eq_of HR.out H3.out hlt)
          have HE : Hid (D = true) := Lib.hid (by rw [← HD.out]; exact decide_eq_true (HO.out H0.out H1.out HST.out HVV.out))
          go_wp2_with fail
          go_ret
          exact ⟨ret_bool HE.out.symm, below_step G1.out HB.out⟩
end Go.Proofs.YtblnfcffalaeaaaGreatDoor
