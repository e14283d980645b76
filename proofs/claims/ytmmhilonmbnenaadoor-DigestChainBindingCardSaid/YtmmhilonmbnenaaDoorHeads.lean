/-
  The contracts of the statements' heads and of the reference's Same; and collide for all lists.
-/
import Derived.Test.YtmmhilonmbnenaaDoorAll
namespace Go.Proofs.YtmmhilonmbnenaaDoor
open Go.RowKit Go.Shelf Tree

/-- The row that make lays for 32 bytes. -/
def zeroRow : Obj := .cells (bytesV (List.replicate 32 0)).toArray 5
theorem make_zeros (V : World) : (Instr.makeSlice 42 (.int .i64 32) (.int .i64 32)).run Tryd.prog V = .ok (.slice (some ⟨V.heap.size, 0, none⟩) 32 32) (V.alloc zeroRow) := by
  obtain ⟨i0, hi, hz0, hz1, hz2⟩ := info_parts info_u8
  have := run_make (P := Tryd.prog) V 42 5 i0 (.int .u8 0) Tryd.underlying42 hi hz0 .i64 .i64 32 32 (by omega) (by omega) (by rw [hz2]; omega) (by omega)
  rw [this, hz1, show (32 : Int).toNat * 1 = 32 by rfl, made_bytes]; rfl
theorem text_zeros (V : World) (B : Nat) (h : V.heap[B]? = some zeroRow) : (convert 42 9 (.slice (some ⟨B, 0, none⟩) 32 32)).run Tryd.prog V = .ok (.string zeros) V := by
  have : BRowAt V B 5 (List.replicate 32 0) := h
  exact this.text 32 32 rfl

theorem append_nothing (w : World) (g c : Nat) (ty : TypeId) : (Builtin.append_ #[26, 26] ty #[.slice (some ⟨g, 0, none⟩) 1 1, .slice none 0 c]).run Tryd.prog w = .ok (.slice (some ⟨g, 0, none⟩) 1 1) w := by
  obtain ⟨i0, hi0, hz0, hz1, hz2⟩ := info_parts info_string
  simp [Builtin.append_, run_underlying Tryd.underlying26, sizeOf, typeInfo, hi0, Builtin.lenOf, run_firstCells_none, storeCells]

/-- What heads answers. -/
def HeadsEnd (L : List ByteArray) (v : ByteArray) (w : World) (e : Ending) (w' : World) : Prop :=
  ∃ l, e = .returned (.tuple #[l, .string v]) ∧ StrOwn w' w.heap.size l L ∧ Below w.heap.size w w'

set_option maxRecDepth 100000 in
set_option maxHeartbeats 1000000 in
theorem same_any (a b : Option Addr) (c d : Nat) (A B : List ByteArray) (w : World) (hA : StrA w a c A) (hB : StrA w b d B) :
    Calls Tryd.prog 25 #[.slice a A.length c, .slice b B.length d] w fun e w' => e = .returned (.bool (decide (A = B))) ∧ Below w.heap.size w w' := by
  have HA := Lib.hid hA
  have HB := Lib.hid hB
  have hca := hA.1
  have hcb := hB.1
  have hma := hA.2.1
  have hmb := hB.2.1
  unfold maxLen at hma hmb
  clear hA hB
  by_cases hl : A.length = B.length
  · have hl1 : ((A.length : Int) != (B.length : Int)) = false := by rw [hl]; simp
    have HL := Lib.hid hl
    obtain ⟨q, hq⟩ : ∃ q, q = decide (A = B) := ⟨_, rfl⟩
    rw [← hq]
    have HQ := Lib.hid hq
    clear hl hq
    go_enter Tryd.func25, Tryd.ntmps25
    go_wp2_with fail
    go_loopw [5] (fun v wr => ∃ k : Nat, k ≤ A.length ∧ v = .int .i64 k ∧ A.take k = B.take k ∧ Below w.heap.size w wr) (fun v _ => A.length - (intOf v).toNat)
    case atStart => exact ⟨0, by omega, rfl, rfl, Below.refl _ _⟩
    case round =>
      obtain ⟨k, hk, rfl, hT, hbr⟩ := hrel
      have HT := Lib.hid hT
      clear hT
      by_cases hka : k < A.length
      · have hkb : k < B.length := by have := HL.out; omega
        obtain ⟨p, off, rfl, l1, l2⟩ := HA.out.2.2 k hka
        obtain ⟨p', off', rfl, m1, m2⟩ := HB.out.2.2 k hkb
        have c1 : wr.cell? ⟨p, off + k, none⟩ = some (.string A[k]) := (hbr.cell (p := ⟨p, off + k, none⟩) l1).trans l2
        have c2 : wr.cell? ⟨p', off' + k, none⟩ = some (.string B[k]) := (hbr.cell (p := ⟨p', off' + k, none⟩) m1).trans m2
        have hki : (k : Int) < (A.length : Int) := by omega
        have hkj : (k : Int) < (B.length : Int) := by omega
        have HK := Lib.hid (And.intro hka hkb)
        have hsuc : A[k] = B[k] → A.take (k + 1) = B.take (k + 1) := fun e => by rw [List.take_succ_eq_append_getElem hka, List.take_succ_eq_append_getElem hkb, HT.out, e]
        have hnot : A[k] ≠ B[k] → ¬ A = B := fun h e => h (by subst e; rfl)
        have HS := Lib.hid (And.intro hsuc hnot)
        clear l1 l2 m1 m2 hsuc hnot
        generalize A[k] = u at *
        generalize B[k] = v at *
        by_cases huv : u = v
        · have HT1 := Lib.hid (HS.out.1 huv)
          subst huv
          clear HS
          go_wp2_with fail
          go_quiet (fail)
          go_wp2_with fail
          go_roundw
          case rel => exact ⟨k + 1, by omega, by go_num, HT1.out, below_drewN hbr _⟩
          case measure => simp [intOf]; omega
        · have hne : (u.toList == v.toList) = false := beq_eq_false_iff_ne.2 (fun e => huv (toList_iff.1 e))
          have HD := Lib.hid (decide_eq_false (HS.out.2 huv))
          clear huv
          go_wp2_with fail
          go_quiet (fail)
          go_wp2_with fail
          go_ret
          exact ⟨by rw [HQ.out, HD.out]; rfl, below_drewN hbr _⟩
      · have hAB : A = B := by
          have := HT.out
          rwa [List.take_of_length_le (by omega), List.take_of_length_le (by have := HL.out; omega)] at this
        have HD := Lib.hid (decide_eq_true hAB)
        clear hAB
        have hki : ¬ ((k : Int) < (A.length : Int)) := by omega
        go_wp2_with fail
        go_ret
        exact ⟨by rw [HQ.out, HD.out]; rfl, hbr⟩
  · have hl1 : ((A.length : Int) != (B.length : Int)) = true := by simp; omega
    have hd : decide (A = B) = false := decide_eq_false (fun e => hl (by rw [e]))
    rw [hd]
    clear hl hd
    go_enter Tryd.func25, Tryd.ntmps25
    go_wp2_with fail
    go_ret
    exact ⟨rfl, Below.refl _ _⟩

set_option maxRecDepth 100000 in
set_option maxHeartbeats 1000000 in
theorem heads_any (a : Option Addr) (c : Nat) (L : List ByteArray) (w : World) (ht : Tab w) (hA : StrA w a c L) (hL : L.length ≤ 100) (hx : ∀ x ∈ L, x.size ≤ 100) :
    Calls Tryd.prog 33 #[.slice a L.length c] w (HeadsEnd (headsR Sha.shaS L.reverse) (headR Sha.shaS L.reverse) w) := by
  have HA := Lib.hid (And.intro ht hA)
  have hca := hA.1
  have hma := hA.2.1
  unfold maxLen at hma
  have HX := Lib.hid hx
  clear ht hA hx
  obtain ⟨i0, hi0, hz0, hz1, hz2⟩ := info_parts info_string
  have hmk := make_zeros w
  have hcv := text_zeros (w.alloc zeroRow) w.heap.size (heap_alloc_new w _)
  go_enter Tryd.func33, Tryd.ntmps33
  go_wp2_with fail
  have hb0 : Below w.heap.size w (w.alloc zeroRow) := (Below.refl _ _).alloc (Nat.le_refl _) _
  obtain ⟨W1, hW1⟩ : ∃ X, X = w.alloc zeroRow := ⟨_, rfl⟩
  rw [← hW1] at hb0 ⊢
  clear hmk hcv hW1
  have h00 : headR Sha.shaS (L.take 0).reverse = zeros := rfl
  go_loopw [4, 5, 6] (fun h o i wr => ∃ k : Nat, k ≤ L.length ∧ i = .int .i64 k ∧ h = .string (headR Sha.shaS (L.take k).reverse) ∧ StrOwn wr w.heap.size o (headsR Sha.shaS (L.take k).reverse) ∧ Below w.heap.size w wr) (fun _ _ i _ => L.length - (intOf i).toNat)
  case atStart => exact ⟨0, by omega, rfl, by rw [h00], World.ownsRow_nil _ _ _ _, hb0⟩
  case round =>
    clear h00
    obtain ⟨k, hk, rfl, rfl, hown, hbr⟩ := hrel
    by_cases hkl : k < L.length
    · obtain ⟨b, off, rfl, l1, l2⟩ := HA.out.2.2.2 k hkl
      have hlc : (wr.cell? ⟨b, off + k, none⟩) = some (.string L[k]) := (hbr.cell (p := ⟨b, off + k, none⟩) l1).trans l2
      have hsx : L[k].size ≤ 100 := HX.out _ (List.getElem_mem hkl)
      have hT : (L.take (k + 1)).reverse = L[k] :: (L.take k).reverse := by rw [List.take_succ_eq_append_getElem hkl, List.reverse_append]; rfl
      have hn1 : headR Sha.shaS (L.take (k + 1)).reverse = chainS Sha.shaS (headR Sha.shaS (L.take k).reverse) L[k] := by rw [hT]; rfl
      have hn2 : headsR Sha.shaS (L.take (k + 1)).reverse = (⟨#[2]⟩ ++ headR Sha.shaS (L.take k).reverse ++ L[k]) :: headsR Sha.shaS (L.take k).reverse := by rw [hT]; rfl
      have hsz := headR_size Sha.shaS Sha.shaS_size (L.take k).reverse
      have hln : (headsR Sha.shaS (L.take k).reverse).length ≤ 100 := by rw [headsR_length, List.length_reverse, List.length_take]; omega
      have HN := Lib.hid (And.intro hn1 hn2)
      clear hT hn1 hn2 l1 l2
      have hki : (k : Int) < (L.length : Int) := by omega
      have HK := Lib.hid hkl
      generalize L[k] = x at *
      generalize headR Sha.shaS (L.take k).reverse = h at *
      generalize headsR Sha.shaS (L.take k).reverse = O at *
      have hB := hbr.size
      have hlit := StrOwn.lit wr (⟨#[2]⟩ ++ h ++ x)
      clear HK
      have hCH := fun V (h1 : Tab V) => chain_any h x V h1 (by omega) (by omega)
      have HCH := Lib.hid hCH
      have HB1 := Lib.hid (And.intro hbr (show b < wr.heap.size from block_lt_of_cell hlc))
      have HLC := Lib.hid hlc
      clear hCH
      rcases hown.2 with ⟨rfl, h0⟩ | ⟨g, cap, cur, rfl, hg1, hg2, hg3, hg4, hg5, hg6⟩
      · have hO : O = [] := List.eq_nil_of_length_eq_zero h0
        have hap := append_nothing
        have hb4 : Below w.heap.size w (wr.alloc (.cells #[.string (⟨#[2]⟩ ++ h ++ x)] 9)) := hbr.alloc hB _
        have hl4 : (wr.alloc (.cells #[.string (⟨#[2]⟩ ++ h ++ x)] 9)).cell? ⟨b, off + k, none⟩ = some (.string x) := (((Below.refl wr.heap.size wr).alloc (Nat.le_refl _) _).cell (p := ⟨b, off + k, none⟩) HB1.out.2).trans hlc
        have HF := Lib.hid (And.intro hb4 (And.intro (hlit.mono hB) hO))
        clear hlit hb4 hO hown h0 hbr
        go_wp2_with fail
        refine (HCH.out _ (HA.out.1.below HF.out.1)).mono ?_
        rintro e V6 ⟨rfl, hb6⟩
        have HV := Lib.hid (And.intro (below_step HF.out.1 hb6) (HF.out.2.1.below hb6))
        clear hb6 hap hl4
        go_wp2_with fail
        go_roundw
        case rel => exact ⟨k + 1, by omega, by go_num, by rw [HN.out.1], by rw [HN.out.2, HF.out.2.2]; exact HV.out.2, HV.out.1⟩
        case measure => simp [intOf]; omega
      · have hcell' : ∀ j u, (strV O)[j]? = some u → (wr.alloc (.cells #[.string (⟨#[2]⟩ ++ h ++ x)] 9)).cell? ((⟨g, 0, none⟩ : Addr).add j) = some u := fun j u hu => World.ownsRow.cells (World.ownsRow.alloc hown _) (g := g) rfl j u hu
        have HOW := Lib.hid hown
        clear hown hg2 hg3 hg4 hg5 hg6
        go_wp2_with (at_builtin; refine wpList_append_own _ rfl _ _ 26 rfl wr.heap.size 9 i0 (.string ⟨#[]⟩) 1 16 Tryd.underlying26 hi0 hz0 hz1 hz2 rfl (by decide) _ _ _ rfl hlit ⟨g, 0, none⟩ O.length cap (strV O) rfl (by simp [strV]) hcell' (strV_one O) (by simp only [List.length_singleton]; unfold maxLen; omega) (by simp only [List.length_singleton]; omega) (by simp) ?_; intro v' w4 hown' hgrow _; have hlt := fun k e => (hlit.lt k e).1; have hb5 : Below w.heap.size w w4 := (hbr.alloc hB _).grown hgrow (by simp; omega) (fun k e => Nat.le_trans hB (hlt k e)); have hl5 : w4.cell? ⟨b, off + k, none⟩ = some (.string x) := (hgrow.cell_far ⟨b, off + k, none⟩ (by have := HB1.out.2; show b < _; simp; omega) (fun e => by have := hlt b e.symm; have := HB1.out.2; omega)).trans ((((Below.refl wr.heap.size wr).alloc (Nat.le_refl _) _).cell (p := ⟨b, off + k, none⟩) HB1.out.2).trans hlc); have HF := Lib.hid (And.intro hb5 ((StrOwn.cons hown').mono hB)); clear hlt hb5 hown' hgrow hlc hlit hcell')
        refine (HCH.out _ (HA.out.1.below HF.out.1)).mono ?_
        rintro e V6 ⟨rfl, hb6⟩
        have HV := Lib.hid (And.intro (below_step HF.out.1 hb6) (HF.out.2.below hb6))
        clear hb6
        go_wp2_with fail
        go_roundw
        case rel => exact ⟨k + 1, by omega, by go_num, by rw [HN.out.1], by rw [HN.out.2]; exact HV.out.2, HV.out.1⟩
        case measure => simp [intOf]; omega
    · have hki : ¬ ((k : Int) < (L.length : Int)) := by omega
      have hTk : L.take k = L := List.take_of_length_le (by omega)
      rw [hTk] at hown
      have hh : headR Sha.shaS (L.take k).reverse = headR Sha.shaS L.reverse := by rw [hTk]
      rw [hh]
      have HO := Lib.hid (And.intro hown hbr)
      clear hown hbr hTk hh
      go_wp2_with fail
      go_ret2
      exact ⟨_, rfl, HO.out.1, HO.out.2⟩
end Go.Proofs.YtmmhilonmbnenaaDoor
