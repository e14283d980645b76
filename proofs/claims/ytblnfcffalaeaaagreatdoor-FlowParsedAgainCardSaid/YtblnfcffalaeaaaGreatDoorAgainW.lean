/-
  The walk of FlowParsedAgain.
-/
import Derived.Test.YtblnfcffalaeaaaGreatDoorMake
import Derived.Test.YtblnfcffalaeaaaGreatDoorRefD
import Derived.Test.YtblnfcffalaeaaaGreatDoorRefL
import Derived.Test.YtblnfcffalaeaaaGreatDoorFlR
import Derived.Test.YtblnfcffalaeaaaGreatDoorFlH
import Derived.Deep.LoopGhost
import Derived.Deep.DeepCutAuto
import Derived.Deep.RegionLaw
import Derived.Lib.AppendStr
namespace Go.Proofs.YtblnfcffalaeaaaGreatDoor
open Go.RowKit Go.Shelf

theorem row_at_all {w : World} {la : Option Addr} {lc : Nat} {D : List (List UInt8)} (h : StrA w la lc (D.map bs)) (h0 : 0 < D.length) :
    ∃ b off, la = some ⟨b, off, none⟩ ∧ b < w.heap.size ∧ ∀ i (hi : i < D.length), w.cell? ⟨b, off + i, none⟩ = some (.string (bs D[i])) := by
  obtain ⟨b, off, e, hb, _⟩ := h.2.2 0 (by simpa using h0)
  refine ⟨b, off, e, hb, fun i hi => ?_⟩
  obtain ⟨b', off', e', _, hc⟩ := h.2.2 i (by simpa using hi)
  rw [e] at e'; injection e' with e'; injection e' with e1 e2; subst e1; subst e2
  rw [hc, List.getElem_map]
theorem take_min (l : List UInt8) (n : Nat) : (bs l).extract 0 (min (l.length : Int) (n : Int)).toNat = bs (l.take n) := by
  rw [extract_bs, List.drop_zero, show (min (l.length : Int) (n : Int)).toNat = min l.length n by omega, Nat.min_comm, ← List.take_take, List.take_length]
/-- Bytes as cells. -/
def bc (l : List UInt8) : List Value := l.map fun b => Value.int .u8 (b.toNat : Int)
theorem strCells_bs (l : List UInt8) : Lib.strCells (bs l) = bc l := rfl
theorem bc_append (a b : List UInt8) : bc (a ++ b) = bc a ++ bc b := by simp [bc]
theorem bc_length (a : List UInt8) : (bc a).length = a.length := by simp [bc]
theorem info_u8 : (Tryz.prog.info? 5).map (fun i => (i.zero, i.size, i.bytes)) = some (some (.int .u8 0), 1, 1) := by kernel_rfl
theorem byte_at (w W : World) (b : Int) (h0 : 0 ≤ b) (h1 : b ≤ 255) (hc : W.cell? ⟨w.heap.size, 0, none⟩ = some (.int .u8 b)) :
    (convert 44 9 (.slice (some ⟨w.heap.size, 0, none⟩) 1 1)).run Tryz.prog W = .ok (.string (bs [UInt8.ofNat b.toNat])) W := by
  have e : (UInt8.ofNat b.toNat).toNat = b.toNat := by rw [UInt8.toNat_ofNat']; omega
  refine run_convert_bytes_back _ 44 9 5 ⟨w.heap.size, 0, none⟩ 1 [UInt8.ofNat b.toNat] Tryz.underlying44 Tryz.underlying5 Tryz.underlying9 ?_
  intro j hj
  have hj0 : j = 0 := by simpa using hj
  subst hj0
  have : (((UInt8.ofNat b.toNat).toNat : Nat) : Int) = b := by rw [e]; omega
  show _ = some (Value.int .u8 (((UInt8.ofNat b.toNat).toNat : Nat) : Int))
  rw [this]
  simpa [Addr.add] using hc
theorem text_pos (f : Fl.Flow) : 0 < (Fl.text f).length := by
  rw [Fl.text_cat]; unfold Fl.bodies; rw [Fl.cat_cons]; simp; omega

/-- The lines read so far that are not ignored, each with its end. -/
def kept (D : List (List UInt8)) (j : Nat) : List UInt8 := Fl.cat ((D.take j).filter fun l => !Fl.ignored l)
theorem kept_skip {D : List (List UInt8)} {j : Nat} (h : j < D.length) (hg : Fl.ignored D[j] = true) : kept D (j + 1) = kept D j := by
  unfold kept; rw [List.take_succ_eq_append_getElem h, List.filter_append]; simp [hg]
theorem kept_line {D : List (List UInt8)} {j : Nat} (h : j < D.length) (hg : Fl.ignored D[j] = false) : kept D (j + 1) = kept D j ++ D[j] ++ [10] := by
  unfold kept; rw [List.take_succ_eq_append_getElem h, List.filter_append, Fl.cat_append]; simp [hg, Fl.cat]
theorem kept_all (D : List (List UInt8)) : kept D D.length = Fl.cat (D.filter fun l => !Fl.ignored l) := by unfold kept; rw [List.take_length]
theorem kept_len (D : List (List UInt8)) (j : Nat) : (kept D j).length ≤ (kept D D.length).length := by
  unfold kept
  conv => rhs; rw [List.take_length, ← List.take_append_drop j D, List.filter_append, Fl.cat_append, List.length_append]
  omega
theorem bytes_row {w : World} {B n : Nat} {v : Value} {K : List UInt8} (h : w.ownsRow B 5 1 v n (bc K)) (hn : n = K.length) (h0 : 0 < K.length) :
    (convert 44 9 v).run Tryz.prog w = .ok (.string (bs K)) w := by
  subst hn
  obtain ⟨a, c, rfl, _, _, h3⟩ := own_slice h
  obtain ⟨g, rfl, _, hc⟩ := h3 h0
  refine run_convert_bytes_back _ 44 9 5 ⟨g, 0, none⟩ c K Tryz.underlying44 Tryz.underlying5 Tryz.underlying9 ?_
  intro j hj
  have := hc j (.int .u8 (K[j].toNat : Int)) (by simp [bc, hj])
  cases j <;> simpa [Addr.add] using this

set_option maxRecDepth 100000 in
set_option maxHeartbeats 4000000 in
theorem again_any (s : ByteArray) (xa : Option Addr) (xc : Nat) (X : List (List Int)) (ya : Option Addr) (yc : Nat) (Y : List (List Int)) (at0 c : Int) (w : World) (ht : ∃ a, Tab a w) (hs : s.size ≤ maxLen) (hX : ArrsA 6 w xa xc X) (hY : ArrsA 3 w ya yc Y)
    (l0 : -9223372036854775808 ≤ at0) (u0 : at0 ≤ 9223372036854775807) (l1 : 0 ≤ c) (u1 : c ≤ 255) :
    Calls Tryz.prog 6 #[.string s, .slice xa X.length xc, .slice ya Y.length yc, .int .i64 at0, .int .u8 c] w fun e w' => e = .returned (.bool true) ∧ Below w.heap.size w w' := by
  obtain ⟨a, ht⟩ := ht
  obtain ⟨raw, rfl⟩ : ∃ m, s = bs m := ⟨s.data.toList, by apply ByteArray.ext; simp⟩
  have HT := Lib.hid ht; have HX := Lib.hid hX; have HY := Lib.hid hY
  clear ht hX hY hs
  go_enter Tryz.func6, Tryz.ntmps6
  go_wp2_with fail
  refine (sane_any _ a HT.out).mono ?_; rintro e w2 ⟨rfl, g2⟩
  have G2 := Lib.hid g2; clear g2
  go_wp2_with fail
  refine (Make_any X xa xc Y ya yc w2 (HX.out.below G2.out) (HY.out.below G2.out)).mono ?_
  rintro e w3 ⟨q, rfl, hq, hqv, -, -, g3⟩
  have G3 := Lib.hid (below_step G2.out g3)
  have QA := Lib.hid hq
  clear g3 hq G2
  go_wp2_with fail
  refine (Print_any q w3 a (HT.out.below G3.out) QA.out).mono ?_
  rintro e w4 ⟨rfl, g4⟩
  have G4 := Lib.hid (below_step G3.out g4)
  clear g4 G3 QA
  have e1 : printS q.f = Fl.text q.f := if_pos hqv
  have e2 : printE q.f = 0 := if_pos hqv
  have hTL := Fl.text_short hqv
  have hT0 := text_pos q.f
  rw [e1, e2]
  clear hqv e1 e2
  generalize Fl.text q.f = T at *
  have hTe : T.isEmpty = false := by cases T with
    | nil => cases hT0
    | cons => rfl
  have hsT : (bs T).size = T.length := bs_size T
  have PK := Lib.hid (fun w => pick_any at0 (T.length : Int) w ⟨l0, u0⟩ (by omega))
  obtain ⟨q0, q1⟩ := pickZ_bd (c := at0) (n := (T.length : Int)) (by omega)
  obtain ⟨k, hk⟩ := Int.eq_ofNat_of_zero_le q0
  rw [hk] at PK q1
  have hkT : k < T.length := by omega
  clear hk q0 q1
  go_wp2_with fail
  refine (PK.out _).mono ?_; rintro e wd ⟨rfl, rfl⟩
  clear PK
  go_upto_region 6 with (fail)
  have m0 : (bs raw).extract 0 (min (raw.length : Int) 3000).toNat = bs (raw.take 3000) := take_min raw 3000
  have hsR : (bs raw).size = raw.length := bs_size raw
  have hk1 : k ≤ T.length := by omega
  have hk2 : k + 1 ≤ T.length := by omega
  have hk3 : (k : Int) + 1 ≤ (T.length : Int) := by omega
  have hk4 : ((k : Int) + 1).toNat = k + 1 := by omega
  have hk5 : (0 : Int) ≤ (k : Int) + 1 := by omega
  have hb0 : (0 : Int) ≤ min (raw.length : Int) 3000 := by omega
  have hb1 : min (raw.length : Int) 3000 ≤ (raw.length : Int) := by omega
  have m1 : (bs T).extract 0 k = bs (T.take k) := by rw [extract_bs]; simp
  have m2 : (bs T).extract (k + 1) T.length = bs (T.drop (k + 1)) := by rw [extract_bs, List.take_length]
  have e9 : IntKind.i64.wrap ((k : Int) + 1) = (k : Int) + 1 := IntWalk.i64_in _ (by omega)
  have cv1 := byte_at w4 (w4.alloc (.cells #[.int .u8 c] 5)) c l1 u1 (block_cell (heap_alloc_new w4 _) 0 _ rfl)
  have cv2 := byte_at w4 ((w4.alloc (.cells #[.int .u8 c] 5)).drew) c l1 u1 (block_cell (heap_alloc_new w4 _) 0 _ rfl)
  have a1 := add_bs (T.take k) [UInt8.ofNat c.toNat] (by simp; omega)
  have a2 := add_bs (T.take k ++ [UInt8.ofNat c.toNat]) (T.drop (k + 1)) (by simp; omega)
  have hl1 : (raw.take 3000).length ≤ 3000 := by rw [List.length_take]; omega
  have hl2 : ((T.take k ++ [UInt8.ofNat c.toNat]) ++ T.drop (k + 1)).length ≤ 8200 := by simp; omega
  generalize raw.take 3000 = s1 at *
  generalize [UInt8.ofNat c.toNat] = cc at *
  generalize T.take k = u1 at *
  generalize T.drop (k + 1) = u3 at *
  generalize u1 ++ cc = u2 at *
  generalize u2 ++ u3 = s2 at *
  have HCC : Hid (((w4.alloc (.cells #[.int .u8 c] 5)).alloc (.cells #[.string (bs s1), .string (bs s2)] 9)).drew.heap[w4.heap.size + 1]? = some (.cells #[.string (bs s1), .string (bs s2)] 9) ∧ Below w.heap.size w ((w4.alloc (.cells #[.int .u8 c] 5)).alloc (.cells #[.string (bs s1), .string (bs s2)] 9)).drew) := Lib.hid (by
    have h0 := heap_alloc_new (w4.alloc (.cells #[.int .u8 c] 5)) (.cells #[.string (bs s1), .string (bs s2)] 9)
    rw [show (w4.alloc (.cells #[.int .u8 c] 5)).heap.size = w4.heap.size + 1 by simp] at h0
    exact ⟨h0, (below_step G4.out (below_step (below_new w4 _) (below_new _ _))).drew⟩)
  go_cut [60, 61, 62] (fun s60 s61 s62 wx => ∃ L, s60 = .slice (some ⟨L, 0, none⟩) 2 2 ∧ s61 = .int .i64 2 ∧ s62 = .int .i64 0 ∧ Hid (wx.heap[L]? = some (.cells #[.string (bs s1), .string (bs s2)] 9) ∧ Below w.heap.size w wx))
  case first =>
    go_region_law (fail)
    all_goals
      go_wp2_with fail
      go_meet
      exact ⟨_, rfl, rfl, rfl, HCC⟩
  case rest =>
    obtain ⟨L, rfl, rfl, rfl, HC⟩ := hcut
    clear HCC a1 a2 cv1 cv2 m0 m1 m2 hk1 hk2 hk3 hk4 hk5 hb0 hb1 e9 hsR hsT hTe hT0 hTL hkT G4 HX HY l0 u0 l1 u1
    generalize wc = w5 at *
    go_wp2_with fail
    go_loopg [62] 2 (fun g i wr => ∃ k : Nat, k ≤ 2 ∧ g = 2 - k ∧ i = .int .i64 (k : Int) ∧ Hid (wr.heap[L]? = some (.cells #[.string (bs s1), .string (bs s2)] 9) ∧ Below w.heap.size w wr))
    case atStart => exact ⟨0, by omega, by omega, rfl, HC⟩
    case round =>
      obtain ⟨k, hk, rfl, rfl, HR⟩ := hrel
      by_cases hlt : k < 2
      · obtain ⟨S, hS, c0⟩ : ∃ S : List UInt8, S.length ≤ 8200 ∧ wr.cell? ⟨L, k, none⟩ = some (.string (bs S)) := by
          rcases (by omega : k = 0 ∨ k = 1) with rfl | rfl
          · exact ⟨s1, by omega, block_cell HR.out.1 0 _ rfl⟩
          · exact ⟨s2, hl2, block_cell HR.out.1 1 _ rfl⟩
        have e9 : IntKind.i64.wrap ((k : Int) + 1) = (k : Int) + 1 := IntWalk.i64_in _ (by omega)
        have hB := HR.out.2.size
        go_wp2_with fail
        rcases hp : Fl.parse S with n | f
        · have hn1 := Fl.parse_err_pos hp
          refine (parse_err hp wr a (HT.out.below HR.out.2) (by omega)).mono ?_
          rintro e w6 ⟨rfl, g6⟩
          have HN : Hid (((w6.alloc (.cells #[.int .i64 0, .int .i64 0, .slice none 0 0, .slice none 0 0] 25)).heap[L]? = some (.cells #[.string (bs s1), .string (bs s2)] 9)) ∧ Below w.heap.size w (w6.alloc (.cells #[.int .i64 0, .int .i64 0, .slice none 0 0, .slice none 0 0] 25))) := Lib.hid ⟨by
            have hb := below_step g6 (below_new w6 (.cells #[.int .i64 0, .int .i64 0, .slice none 0 0, .slice none 0 0] 25))
            exact (hb.block _ (lt_of_block HR.out.1)).trans HR.out.1, below_step (below_step HR.out.2 g6) (below_new _ _)⟩
          have hn2 : ¬ (n : Int) < 1 := by omega
          clear c0 hp g6 hn1
          go_wp2_with fail
          go_roundg (2 - (k + 1))
          case rel => exact ⟨k + 1, hlt, rfl, by go_num, HN⟩
          case measure => omega
        · obtain ⟨hv, htx⟩ := Fl.parse_is hp
          have HTX0 := Lib.hid htx
          clear htx
          refine (parse_ok hp wr a (HT.out.below HR.out.2) (by omega)).mono ?_
          rintro e w6 ⟨g, rfl, hgf, hg, g6⟩
          have B6 := Lib.hid (below_step HR.out.2 g6)
          have L6 := Lib.hid ((g6.block _ (lt_of_block HR.out.1)).trans HR.out.1)
          have GK := Lib.hid hg
          have hts := Fl.text_short hv
          have htp := text_pos f
          clear c0 hp g6 hg HR hB
          go_upto_region 13 with (fail)
          have g7 := below_new w6 (flowBox g)
          have GB : Hid ((w6.alloc (flowBox g)).heap[w6.heap.size]? = some (flowBox g)) := Lib.hid (heap_alloc_new _ _)
          have B7 := Lib.hid (below_step B6.out g7)
          have L7 := Lib.hid ((g7.block _ (lt_of_block L6.out)).trans L6.out)
          have GK7 := Lib.hid (GK.out.below g7)
          clear g7 B6 L6 GK
          generalize w6.alloc (flowBox g) = w7 at *
          generalize w6.heap.size = Z at *
          have a0 := block_cell GB.out 0 _ rfl
          have a1 := block_cell GB.out 1 _ rfl
          have a2 := block_cell GB.out 2 _ rfl
          have a3 := block_cell GB.out 3 _ rfl
          have PR := Print_any g w7 a (HT.out.below B7.out) GK7.out
          rw [hgf, show printS f = Fl.text f from if_pos hv, show printE f = 0 from if_pos hv] at PR
          have HPR := Lib.hid PR
          clear PR hv hgf
          go_wp2_with fail
          refine HPR.out.mono ?_
          rintro e w8 ⟨rfl, g8⟩
          have B8 := Lib.hid (below_step B7.out g8)
          have L8 := Lib.hid ((g8.block _ (lt_of_block L7.out)).trans L7.out)
          clear a0 a1 a2 a3 g8 B7 L7 GK7 GB HPR
          go_wp2_with fail
          refine (refLines_any S w8 (by omega)).mono ?_
          rintro e w9 ⟨la, lc, rfl, hrow, g9⟩
          have B9 := Lib.hid (below_step B8.out g9)
          have L9 := Lib.hid ((g9.block _ (lt_of_block L8.out)).trans L8.out)
          obtain ⟨lb, lf, hla, hlb, hcell⟩ := row_at_all (strA_own rfl hrow) (Nat.pos_of_ne_zero fun e => Fl.lines_ne S (List.eq_nil_of_length_eq_zero e))
          subst hla
          have HCE := Lib.hid hcell
          have HTX := Lib.hid HTX0.out
          have htl : (Fl.cat ((Fl.lines S).filter fun l => !Fl.ignored l)).length ≤ 8192 := by rw [← HTX0.out]; exact hts
          have hln := lines_len S
          clear g9 B8 L8 hrow hcell HTX0
          generalize Fl.lines S = D at *
          have hKall := kept_all D
          rw [← hKall] at htl HTX
          have hKle := kept_len D
          have HKL := Lib.hid (fun j => Nat.le_trans (hKle j) htl)
          clear hKall hKle htl
          have hlenD : D.length ≤ 8201 := by omega
          go_wp2_with fail
          go_loopg [22, 24] (D.length) (fun gg wv i wq => ∃ (j : Nat) (v : Value), j ≤ D.length ∧ gg = D.length - j ∧ v = wv ∧ i = .int .i64 (j : Int) ∧ Hid (wq.ownsRow w9.heap.size 5 1 v (kept D j).length (bc (kept D j)) ∧ Below w9.heap.size w9 wq))
          case atStart => exact ⟨0, _, by omega, by omega, rfl, rfl, Lib.hid ⟨World.ownsRow_nil _ _ _ _, Below.refl _ _⟩⟩
          case round =>
            obtain ⟨j, v, hj, rfl, rfl, rfl, HQ⟩ := hrel
            by_cases hjl : j < D.length
            · have cl := cell_below HQ.out.2 (HCE.out j hjl)
              have HK0 := Lib.hid (kept_skip hjl)
              have HK1 := Lib.hid (kept_line hjl)
              have hkl := HKL.out (j + 1)
              have e8 : IntKind.i64.wrap ((j : Int) + 1) = (j : Int) + 1 := IntWalk.i64_in _ (by omega)
              generalize D[j] = l at *
              by_cases hl0 : l = []
              · subst hl0
                have HK := Lib.hid (HK0.out rfl)
                go_wp2_with fail
                go_roundg (D.length - (j + 1))
                case rel => exact ⟨j + 1, _, hjl, rfl, rfl, by go_num, Lib.hid (by rw [HK.out]; exact HQ.out)⟩
                case measure => omega
              · have hne : l.isEmpty = false := by simpa using hl0
                have hx0 : 0 < (bs l).size := by rw [bs_size]; exact List.length_pos_iff.2 hl0
                have hhd : ∃ b t, l = b :: t := by
                  cases l with
                  | nil => exact absurd rfl hl0
                  | cons b t => exact ⟨b, t, rfl⟩
                by_cases hb : (bs l)[0] = 35
                · have hig : Fl.ignored l = true := by
                    obtain ⟨b, t, rfl⟩ := hhd
                    have : b = 35 := by simpa [bs, ByteArray.getElem_eq_getElem_data] using hb
                    simp [Fl.ignored, this]
                  have HK := Lib.hid (HK0.out hig)
                  have e2 : ((((bs l)[0].toNat : Nat) : Int) == 35) = true := by rw [hb]; rfl
                  clear hb hhd hig hl0
                  go_wp2_with fail
                  go_roundg (D.length - (j + 1))
                  case rel => exact ⟨j + 1, _, hjl, rfl, rfl, by go_num, Lib.hid (by rw [HK.out]; exact HQ.out)⟩
                  case measure => omega
                · have hig : Fl.ignored l = false := by
                    obtain ⟨b, t, rfl⟩ := hhd
                    have : ¬ b = 35 := by simpa [bs, ByteArray.getElem_eq_getElem_data] using hb
                    simp [Fl.ignored, this]
                  have HK := Lib.hid (HK1.out hig)
                  have e2 : ((((bs l)[0].toNat : Nat) : Int) == 35) = false := by
                    rw [beq_eq_false_iff_ne]; intro h; exact hb (UInt8.toNat_inj.1 (by have : (35 : UInt8).toNat = 35 := rfl; omega))
                  rw [HK.out] at hkl
                  have hsl : (bs l).size = l.length := bs_size l
                  have hkl2 : (kept D j).length + l.length + 1 ≤ 8192 := by simp at hkl; omega
                  clear hb hhd hig hl0 hkl HK0 HK1
                  obtain ⟨i0, hi, hz0, hz1, hz2⟩ := info_parts info_u8
                  have hbq := HQ.out.2.size
                  go_wp2_with (at_builtin; go_loud (refine Lib.wpList_append_own_string _ rfl _ _ _ _ rfl w9.heap.size 5 i0 Tryz.underlying44 Tryz.underlying9 hi hz0 hz1 hz2 v _ _ rfl HQ.out.1 (bs l) rfl ?d1 ?d2 ?d3 ?_))
                  case d1 => unfold maxLen; omega
                  case d2 => omega
                  case d3 => omega
                  intro v2 w10 hown hgrow _
                  have HO := Lib.hid hown
                  have G10 : Hid (Below w9.heap.size w9 w10) := Lib.hid (HQ.out.2.grown hgrow hbq (fun k hk => (HQ.out.1.lt k hk).1))
                  clear hown hgrow
                  have HWA := Lib.hid (below_new w10 (.cells #[.int .u8 10] 5))
                  have HO2 := Lib.hid (own_below HO.out HWA.out)
                  have HNW : Hid (∀ j u, [Value.int .u8 10][j]? = some u → (w10.alloc (.cells #[.int .u8 10] 5)).cell? ((⟨w10.heap.size, 0, none⟩ : Addr).add j) = some u) := Lib.hid (World.news_of_block (cs := #[.int .u8 10]) (t := 5) (fr := (0, 0)) (heap_alloc_new w10 _))
                  have hb10 := G10.out.size
                  go_wp2_with (at_builtin; refine wpList_append_lies _ rfl _ _ _ rfl w9.heap.size 5 i0 _ 1 1 Tryz.underlying44 hi hz0 hz1 hz2 rfl (by decide) v2 ((kept D j).length + (bs l).size) (bc (kept D j) ++ Lib.strCells (bs l)) rfl HO2.out ⟨w10.heap.size, 0, none⟩ 1 1 [.int .u8 10] rfl rfl HNW.out (by simp [Value.oneCell']) (by decide) ?c1 ?c2 ?c3 (w10.heap.size + 1) (by simp) ?_)
                  case c1 => unfold maxLen; omega
                  case c2 => omega
                  case c3 => first | omega | (simp; omega)
                  intro gg cap w11 hown hgrow hat hl11
                  have HN : Hid (w11.ownsRow w9.heap.size 5 1 (.slice (some ⟨gg, 0, none⟩) ((kept D j).length + l.length + 1) cap) (kept D (j + 1)).length (bc (kept D (j + 1))) ∧ Below w9.heap.size w9 w11) := Lib.hid ⟨by
                    have q1 : (kept D (j + 1)).length = (kept D j).length + l.length + 1 := by rw [HK.out]; simp; omega
                    have q2 : bc (kept D (j + 1)) = bc (kept D j) ++ (Lib.strCells (bs l) ++ [.int .u8 10]) := by rw [HK.out, bc_append, bc_append, List.append_assoc]; rfl
                    rw [q1, q2]; exact hown, (G10.out.trans (HWA.out.mono hb10)).grown hgrow (Nat.le_trans hb10 HWA.out.size) (fun k hk => (HO2.out.lt k hk).1)⟩
                  clear hown hgrow hat
                  go_wp2_with fail
                  go_roundg (D.length - (j + 1))
                  case rel => exact ⟨j + 1, _, hjl, rfl, rfl, by go_num, HN⟩
                  case measure => omega
            · obtain rfl : j = D.length := by omega
              have hK : Fl.text f = kept D D.length := HTX.out
              rw [← hK] at HQ
              have cv := bytes_row HQ.out.1 rfl htp
              have HN : Hid ((wr.heap[L]? = some (.cells #[.string (bs s1), .string (bs s2)] 9)) ∧ Below w.heap.size w wr) := Lib.hid ⟨(HQ.out.2.block _ (lt_of_block L9.out)).trans L9.out, B9.out.trans (HQ.out.2.mono B9.out.size)⟩
              clear hK HQ
              go_wp2_with fail
              go_roundg (2 - (k + 1))
              case rel => exact ⟨k + 1, hlt, rfl, by go_num, HN⟩
              case measure => omega
      · obtain rfl : k = 2 := by omega
        go_wp2_with fail
        go_ret
        exact ⟨rfl, HR.out.2⟩
end Go.Proofs.YtblnfcffalaeaaaGreatDoor
