/-
  The reference's Digits, text and Print: a numeral, the text of a fraction. Condition: the numbers of a fraction (Digits: from -1000000000 to 1000000000).
-/
import Derived.Test.YtkkhmgcjaehnkaaDoorRefA
namespace Go.Proofs.YtkkhmgcjaehnkaaDoor
open Go.RowKit Go.Shelf

/-- One byte as a string, behind the row that holds it. -/
theorem one_byte (w : World) (b : Int) (h0 : 0 ≤ b) (h1 : b ≤ 255) :
    (convert 64 9 (.slice (some ⟨w.heap.size, 0, none⟩) 1 1)).run Tryd.prog (w.alloc (.cells #[.int .u8 b] 5)) = .ok (.string ⟨#[UInt8.ofNat b.toNat]⟩) (w.alloc (.cells #[.int .u8 b] 5)) := by
  have e : (UInt8.ofNat b.toNat).toNat = b.toNat := by rw [UInt8.toNat_ofNat']; omega
  refine run_convert_bytes_back _ 64 9 5 ⟨w.heap.size, 0, none⟩ 1 [UInt8.ofNat b.toNat] Tryd.underlying64 Tryd.underlying5 Tryd.underlying9 ?_
  intro j hj
  have hj0 : j = 0 := by simpa using hj
  subst hj0
  have : (((UInt8.ofNat b.toNat).toNat : Nat) : Int) = b := by rw [e]; omega
  show _ = some (Value.int .u8 (((UInt8.ofNat b.toNat).toNat : Nat) : Int))
  rw [this]
  simp [go_sem, Addr.add]

/-- How far Digits has come: what is left, and what is written. -/
def Dig (N u : Nat) (l : List UInt8) : Prop := (l = [] ∧ u = N) ∨ (l ≠ [] ∧ (if u = 0 then l else Lib.decDigits u ++ l) = Lib.decDigits N)
theorem Dig.next {N u : Nat} {l : List UInt8} (h : Dig N u l) (hl : l = [] ∨ 0 < u) : Dig N (u / 10) (UInt8.ofNat (48 + u % 10) :: l) := by
  refine .inr ⟨by simp, ?_⟩
  have key : ∀ r, (if u / 10 = 0 then UInt8.ofNat (48 + u % 10) :: r else Lib.decDigits (u / 10) ++ UInt8.ofNat (48 + u % 10) :: r) = Lib.decDigits u ++ r := by
    intro r
    conv => rhs; rw [Lib.decDigits]
    by_cases hu : u < 10
    · rw [if_pos (by omega), dif_pos hu, Nat.mod_eq_of_lt hu]; rfl
    · rw [if_neg (by omega), dif_neg hu]; simp
  rw [key]
  rcases h with ⟨rfl, rfl⟩ | ⟨h1, h2⟩
  · simp
  · rcases hl with rfl | hl
    · exact absurd rfl h1
    · rwa [if_neg (by omega)] at h2
theorem Dig.last {N : Nat} {l : List UInt8} (h : Dig N 0 l) (hl : l ≠ []) : l = Lib.decDigits N := by
  rcases h with ⟨rfl, _⟩ | ⟨_, h2⟩
  · exact absurd rfl hl
  · simpa using h2
theorem Dig.len {N u : Nat} {l : List UInt8} (h : Dig N u l) (hN : N ≤ 1000000000) : l.length ≤ 10 := by
  have := Ra.dec_len hN
  rcases h with ⟨rfl, rfl⟩ | ⟨_, h2⟩
  · simp
  · split at h2
    · subst h2; exact this
    · have e := congrArg List.length h2
      rw [List.length_append] at e; omega

def sizeOne (v : Value) : Nat := match v with | .string b => if b.size = 0 then 1 else 0 | _ => 0
theorem sizeOne_cons (c : UInt8) (l : List UInt8) : sizeOne (.string ⟨(c :: l).toArray⟩) = 0 := by
  show (if (c :: l).toArray.size = 0 then 1 else 0) = 0
  simp
theorem sizeOne_nil : sizeOne (.string ⟨[].toArray⟩) = 1 := rfl

set_option maxRecDepth 100000 in
set_option maxHeartbeats 1000000 in
theorem refDigits_pos (N : Nat) (w : World) (hN : N ≤ 1000000000) :
    Calls Tryd.prog 41 #[.int .i64 (N : Int)] w fun e w' => e = .returned (.string ⟨(Lib.decDigits N).toArray⟩) ∧ Below w.heap.size w w' := by
  have hbd : ∀ (u : Nat) (wr : World), u ≤ N → (convert 64 9 (.slice (some ⟨wr.heap.size, 0, none⟩) 1 1)).run Tryd.prog (wr.alloc (.cells #[.int .u8 (48 + (u : Int) % 10)] 5)) = .ok (.string ⟨#[UInt8.ofNat (48 + u % 10)]⟩) (wr.alloc (.cells #[.int .u8 (48 + (u : Int) % 10)] 5)) := fun u wr _ => by
    have := one_byte wr (48 + (u : Int) % 10) (by omega) (by omega)
    rw [show (48 + (u : Int) % 10).toNat = 48 + u % 10 by omega] at this
    exact this
  have HC := Lib.hid hbd; clear hbd
  have HN := Lib.hid hN; clear hN
  go_enter Tryd.func41, Tryd.ntmps41
  go_wp2_with fail
  go_loopw [0, 3] (fun x s wr => ∃ (u : Nat) (l : List UInt8), x = .int .i64 (u : Int) ∧ s = .string ⟨l.toArray⟩ ∧ Hid (Dig N u l) ∧ Hid (u ≤ N) ∧ Below w.heap.size w wr) (fun x s _ => (intOf x).toNat + sizeOne s)
  case atStart => exact ⟨N, [], rfl, rfl, Lib.hid (.inl ⟨rfl, rfl⟩), Lib.hid (Nat.le_refl _), Below.refl _ _⟩
  case round =>
    obtain ⟨u, l, rfl, rfl, HD, HU, hb⟩ := hrel
    have hcv := HC.out u wr HU.out
    have hu0 : (0 : Int) ≤ u := by omega
    have hu1 : (u : Int) ≤ 1000000000 := by have := HU.out; have := HN.out; omega
    have HB := Lib.hid hb; clear hb
    have HE0 := fun h => HD.out.next h
    obtain ⟨c, hc⟩ : ∃ c, UInt8.ofNat (48 + u % 10) = c := ⟨_, rfl⟩
    rw [hc] at HE0 hcv
    have hlen := HD.out.len HN.out
    have hbx : Below w.heap.size w (wr.alloc (.cells #[.int .u8 (48 + (u : Int) % 10)] 5)) := below_step HB.out (below_new _ _)
    have HBX := Lib.hid hbx
    have e5 : ∀ W, (Op.stringOp .add ⟨#[c]⟩ ⟨l.toArray⟩).run Tryd.prog W = .ok (.string (⟨#[c]⟩ ++ ⟨l.toArray⟩)) W := fun W => run_string_add_sum _ _ _ (by show 1 + l.toArray.size ≤ _; simp; omega)
    have hs : (⟨#[c]⟩ ++ ⟨l.toArray⟩ : ByteArray) = ⟨(c :: l).toArray⟩ := by apply ByteArray.ext; simp
    have HS := Lib.hid hs
    clear hbx hs hc hlen
    by_cases hl : l = []
    · subst hl
      have HE := Lib.hid (HE0 (.inl rfl))
      clear HE0
      go_wp2_with fail
      go_roundw
      case rel => exact ⟨u / 10, [c], by simp, by rw [HS.out], HE, Lib.hid (by have := HU.out; omega), HBX.out⟩
      case measure => rw [HS.out, sizeOne_cons, sizeOne_nil]; simp [intOf]; omega
    · by_cases hu : 0 < u
      · have HE := Lib.hid (HE0 (.inr hu))
        clear HE0
        have hg : decide (0 < (u : Int)) = true := by simp; omega
        have hn1 : (⟨l.toArray⟩ : ByteArray).toList.isEmpty = false := by rw [Lib.toList_data]; simp [hl]
        go_wp2_with fail
        go_roundw
        case rel => exact ⟨u / 10, c :: l, by simp, by rw [HS.out], HE, Lib.hid (by have := HU.out; omega), HBX.out⟩
        case measure => rw [HS.out, sizeOne_cons]; simp [intOf]; omega
      · have hu' : u = 0 := by omega
        have hr := Dig.last (by have := HD.out; rwa [hu'] at this) hl
        have hg : decide (0 < u) = false := by simp; omega
        have HR := Lib.hid hr
        have hn1 : l.isEmpty = false := by simp [hl]
        clear hr HE0 hcv hu' hu
        go_wp2_with fail
        go_ret
        exact ⟨by rw [HR.out]; rfl, HB.out⟩

theorem refDigits_any (n : Int) (w : World) (h1 : -1000000000 ≤ n) (h2 : n ≤ 1000000000) :
    Calls Tryd.prog 41 #[.int .i64 n] w fun e w' => e = .returned (.string (itoaB n)) ∧ Below w.heap.size w w' := by
  by_cases h : n < 0
  · have hp := fun w => refDigits_pos n.natAbs w (by omega)
    rw [show ((n.natAbs : Nat) : Int) = -n by omega] at hp
    have hv : itoaB n = ⟨#[45]⟩ ++ ⟨(Lib.decDigits n.natAbs).toArray⟩ := by
      unfold itoaB Lib.itoa; rw [if_pos h]; apply ByteArray.ext; simp
    have hl := Ra.dec_len (u := n.natAbs) (by omega)
    rw [hv]
    generalize Lib.decDigits n.natAbs = l at *
    have e5 : ∀ W, (Op.stringOp .add ⟨#[45]⟩ ⟨l.toArray⟩).run Tryd.prog W = .ok (.string (⟨#[45]⟩ ++ ⟨l.toArray⟩)) W := fun W => run_string_add_sum _ _ _ (by show 1 + l.toArray.size ≤ _; simp; omega)
    generalize (⟨#[45]⟩ ++ ⟨l.toArray⟩ : ByteArray) = S at *
    have HP := Lib.hid hp; clear hp hv hl
    go_enter Tryd.func41, Tryd.ntmps41
    go_wp2_with fail
    refine (HP.out _).mono ?_; rintro e w1 ⟨rfl, g1⟩
    go_wp2_with fail
    go_ret
    exact ⟨rfl, g1⟩
  · have hp := refDigits_pos n.toNat w (by omega)
    rw [show ((n.toNat : Nat) : Int) = n by omega] at hp
    refine hp.mono ?_
    rintro e w1 ⟨rfl, g1⟩
    exact ⟨by unfold itoaB Lib.itoa; rw [if_neg h], g1⟩

theorem refText_any (n d : Int) (w : World) (ho : Ra.Ok n d) :
    Calls Tryd.prog 22 #[ratV n d] w fun e w' => e = .returned (.string (txtB n d)) ∧ Below w.heap.size w w' := by
  obtain ⟨o1, o2, o3, o4, -⟩ := ho
  have i1 := fun w => refDigits_any n w (by omega) (by omega)
  have i2 := fun x w (hx : -1000000000 ≤ x ∧ x ≤ 1000000000) => refDigits_any x w hx.1 hx.2
  have I1 := Lib.hid i1; have I2 := Lib.hid i2
  have F1 := Lib.hid (And.intro o3 o4)
  have F2 : Hid (-1000000000 ≤ d ∧ d ≤ 1000000000) := Lib.hid ⟨by omega, by omega⟩
  clear i1 i2
  have B0 := Lib.hid (BoxAt.new w n d)
  by_cases hd : d = 1
  · have hv : txtB n d = itoaB n := by unfold txtB Ra.txt itoaB; rw [if_pos hd]
    have hd' : ((d : Int) == 1) = true := by rw [beq_iff_eq]; exact hd
    have HV := Lib.hid hv; clear hv hd
    go_enter Tryd.func22, Tryd.ntmps22
    go_wp2_with fail
    refine (I1.out _).mono ?_; rintro e w1 ⟨rfl, g1⟩
    have l1 := below_step (below_new w _) g1
    go_wp2_with fail
    go_ret
    exact ⟨by rw [HV.out]; rfl, l1⟩
  · have hv : txtB n d = itoaB n ++ ⟨#[47]⟩ ++ itoaB d := by
      unfold txtB Ra.txt itoaB; rw [if_neg hd]; apply ByteArray.ext; simp
    have hd' : ((d : Int) == 1) = false := by rw [beq_eq_false_iff_ne]; exact hd
    have HV := Lib.hid hv; clear hv hd
    have s1 : (itoaB n).size ≤ 11 := by rw [itoaB_size]; exact Ra.itoa_len o3 o4
    have s2 : (itoaB d).size ≤ 11 := by rw [itoaB_size]; exact Ra.itoa_len (by omega) (by omega)
    have s3 : (itoaB n ++ ⟨#[47]⟩).size = (itoaB n).size + 1 := by rw [ByteArray.size_append]; rfl
    have e5 : ∀ W, (Op.stringOp .add (itoaB n) ⟨#[47]⟩).run Tryd.prog W = .ok (.string (itoaB n ++ ⟨#[47]⟩)) W := fun W => run_string_add_sum _ _ _ (by show (itoaB n).size + 1 ≤ _; omega)
    have e6 : ∀ W, (Op.stringOp .add (itoaB n ++ ⟨#[47]⟩) (itoaB d)).run Tryd.prog W = .ok (.string (itoaB n ++ ⟨#[47]⟩ ++ itoaB d)) W := fun W => run_string_add_sum _ _ _ (by omega)
    generalize itoaB n ++ ⟨#[47]⟩ = S1 at *
    clear s1 s2 s3
    go_enter Tryd.func22, Tryd.ntmps22
    go_wp2_with fail
    have x0 := B0.out.2.1; have x1 := B0.out.2.2
    have HS : Hid (∀ w1 w2, (w1.cell? ⟨w.heap.size, 0, none⟩ = some (.int .i64 n) ∧ w1.cell? ⟨w.heap.size, 1, none⟩ = some (.int .i64 d) ∧ Below w.heap.size w w1) → Below w1.heap.size w1 w2 →
        (w2.cell? ⟨w.heap.size, 0, none⟩ = some (.int .i64 n) ∧ w2.cell? ⟨w.heap.size, 1, none⟩ = some (.int .i64 d) ∧ Below w.heap.size w w2)) :=
      Lib.hid fun w1 w2 ⟨h1, h2, h3⟩ hb => ⟨cell_below hb h1, cell_below hb h2, below_step h3 hb⟩
    have h0 : (w.alloc (.cells #[.int .i64 n, .int .i64 d] 27)).cell? ⟨w.heap.size, 0, none⟩ = some (.int .i64 n) ∧ (w.alloc (.cells #[.int .i64 n, .int .i64 d] 27)).cell? ⟨w.heap.size, 1, none⟩ = some (.int .i64 d) ∧ Below w.heap.size w (w.alloc (.cells #[.int .i64 n, .int .i64 d] 27)) := ⟨x0, x1, below_new _ _⟩
    have H0 := Lib.hid h0; clear h0
    generalize w.alloc (.cells #[.int .i64 n, .int .i64 d] 27) = W at *
    go_region_held3 (fun w' => w'.cell? ⟨w.heap.size, 0, none⟩ = some (.int .i64 n) ∧ w'.cell? ⟨w.heap.size, 1, none⟩ = some (.int .i64 d) ∧ Below w.heap.size w w') (first | exact HS.out _ _ H0.out (Below.refl _ _).drew | exact HS.out _ _ (by assumption) hb4)
      ((go_at_call 41; ((with_reducible refine (I2.out _ _ ?_).mono ?_); (first | exact F1.out | exact F2.out); rintro e w4 ⟨rfl, hb4⟩)))
    all_goals
      rename_i hh
      have HB := Lib.hid hh.2.2
      clear hh x0 x1 e5 e6
      go_wp2_with fail
      go_ret
      exact ⟨by rw [HV.out]; rfl, HB.out⟩

theorem refPrint_yes (n d : Int) (w : World) (ho : Ra.Ok n d) :
    Calls Tryd.prog 8 #[ratV n d] w fun e w' => e = .returned (.tuple #[.string (txtB n d), .int .i64 0]) ∧ Below w.heap.size w w' := by
  have v1 := fun w => refValid_any n d w (by have := ho.2.2.1; omega) (by have := ho.2.2.2.1; omega) (by have := ho.1; omega) (by have := ho.2.1; omega)
  rw [okB_true ho] at v1
  have t1 := fun w => refText_any n d w ho
  have V1 := Lib.hid v1; have T1 := Lib.hid t1
  have B0 := Lib.hid (BoxAt.new w n d)
  clear v1 t1 ho
  have x0 := B0.out.2.1; have x1 := B0.out.2.2
  go_enter Tryd.func8, Tryd.ntmps8
  go_wp2_with fail
  clear x0 x1
  refine (V1.out _).mono ?_; rintro e w1 ⟨rfl, g1⟩
  have l1 := below_step (below_new w _) g1
  have x0 := (B0.out.below g1).2.1; have x1 := (B0.out.below g1).2.2
  go_wp2_with fail
  refine (T1.out _).mono ?_; rintro e w2 ⟨rfl, g2⟩
  have l2 := below_step l1 g2
  clear x0 x1
  go_wp2_with fail
  go_ret2
  exact ⟨rfl, l2⟩
theorem refPrint_no (n d : Int) (w : World) (fa : Fits n ∧ Fits d) (ho : ¬ Ra.Ok n d) :
    Calls Tryd.prog 8 #[ratV n d] w fun e w' => e = .returned (.tuple #[.string ⟨#[]⟩, .int .i64 30]) ∧ Below w.heap.size w w' := by
  have v1 := fun w => refValid_any n d w fa.1.1 fa.1.2 fa.2.1 fa.2.2
  rw [okB_false ho] at v1
  have V1 := Lib.hid v1
  have B0 := Lib.hid (BoxAt.new w n d)
  clear v1 ho fa
  have x0 := B0.out.2.1; have x1 := B0.out.2.2
  go_enter Tryd.func8, Tryd.ntmps8
  go_wp2_with fail
  clear x0 x1
  refine (V1.out _).mono ?_; rintro e w1 ⟨rfl, g1⟩
  have l1 := below_step (below_new w _) g1
  go_wp2_with fail
  go_ret2
  exact ⟨rfl, l1⟩
end Go.Proofs.YtkkhmgcjaehnkaaDoor
