/-
  The reference's Lines: the lines of a text, in a row of the call's own. Condition: a text of at most 900000 bytes.
-/
import Derived.Test.YtcaclijkkbhfhaaGreatDoorLines
import Derived.Deep.LoopGhost
import Derived.Deep.DeepCutAuto
namespace Go.Proofs.YtcaclijkkbhfhaaGreatDoor
open Go.RowKit Go.Shelf

/-- How far Lines has come: k bytes are looked at, the line under way begins at fr. -/
def LinesAt (s : List UInt8) (k fr : Nat) (L : List (List UInt8)) : Prop :=
  (k ≤ s.length ∧ fr ≤ k ∧ Fl.lines s = L ++ Fl.lines (s.drop fr) ∧ (10 : UInt8) ∉ (s.drop fr).take (k - fr)) ∨ (k = s.length + 1 ∧ Fl.lines s = L)
theorem LinesAt.start (s : List UInt8) : LinesAt s 0 0 [] := .inl ⟨Nat.zero_le _, Nat.le_refl _, by simp, by simp⟩
theorem LinesAt.step {s : List UInt8} {k fr : Nat} {L : List (List UInt8)} (h : LinesAt s k fr L) (hk : k < s.length) (hn : s[k] ≠ 10) : LinesAt s (k + 1) fr L := by
  rcases h with ⟨_, h2, h3, h4⟩ | ⟨h1, _⟩
  · refine .inl ⟨hk, by omega, h3, ?_⟩
    rw [show k + 1 - fr = (k - fr) + 1 by omega, List.take_add_one, List.mem_append]
    rintro (h | h)
    · exact h4 h
    · rw [List.getElem?_drop, show fr + (k - fr) = k by omega, List.getElem?_eq_getElem hk] at h
      simp at h; exact hn h.symm
  · omega
theorem LinesAt.line {s : List UInt8} {k fr : Nat} {L : List (List UInt8)} (h : LinesAt s k fr L) (hk : k < s.length) (hn : s[k] = 10) : LinesAt s (k + 1) (k + 1) (L ++ [(s.take k).drop fr]) ∧ fr ≤ k := by
  rcases h with ⟨_, h2, h3, h4⟩ | ⟨h1, _⟩
  · refine ⟨.inl ⟨hk, Nat.le_refl _, ?_, by simp⟩, h2⟩
    have e : s.drop fr = (s.take k).drop fr ++ 10 :: s.drop (k + 1) := by
      have e1 : s = s.take k ++ s[k] :: s.drop (k + 1) := by rw [← List.drop_eq_getElem_cons hk, List.take_append_drop]
      conv => lhs; rw [e1]
      rw [List.drop_append_of_le_length (by simp; omega), hn]
    rw [h3, e, Fl.lines_some (by rw [List.drop_take]; exact h4)]; simp
  · omega
theorem LinesAt.last {s : List UInt8} {fr : Nat} {L : List (List UInt8)} (h : LinesAt s s.length fr L) : LinesAt s (s.length + 1) (s.length + 1) (L ++ [(s.take s.length).drop fr]) ∧ fr ≤ s.length := by
  rcases h with ⟨_, h2, h3, h4⟩ | ⟨h1, _⟩
  · refine ⟨.inr ⟨rfl, ?_⟩, h2⟩
    rw [List.take_of_length_le (by simp)] at h4
    rw [h3, Fl.lines_none h4, List.take_length]
  · omega
theorem LinesAt.le {s : List UInt8} {k fr : Nat} {L : List (List UInt8)} (h : LinesAt s k fr L) : k ≤ s.length + 1 := by rcases h with ⟨h, _⟩ | ⟨h, _⟩ <;> omega
theorem LinesAt.done {s : List UInt8} {k fr : Nat} {L : List (List UInt8)} (h : LinesAt s k fr L) (hk : s.length < k) : Fl.lines s = L := by
  rcases h with ⟨h1, _⟩ | ⟨_, h⟩
  · omega
  · exact h
theorem extract_bs (s : List UInt8) (i j : Nat) : (bs s).extract i j = bs ((s.take j).drop i) := by
  apply ByteArray.ext
  rw [ByteArray.data_extract]
  apply Array.toList_inj.1
  rw [Array.toList_extract, List.extract_eq_take_drop, List.drop_take]
theorem info_string : (Tryz.prog.info? 9).map (fun i => (i.zero, i.size, i.bytes)) = some (some (.string ⟨#[]⟩), 1, 16) := by kernel_rfl

set_option maxRecDepth 100000 in
set_option maxHeartbeats 2000000 in
theorem refLines_any (s : List UInt8) (w : World) (hs : s.length ≤ 900000) :
    Calls Tryz.prog 24 #[.string (bs s)] w fun e w' => ∃ a c, e = .returned (.slice a (Fl.lines s).length c) ∧ w'.ownsRow w.heap.size 9 1 (.slice a (Fl.lines s).length c) (Fl.lines s).length (strRow (Fl.lines s)) ∧ Below w.heap.size w w' := by
  have hsz : (bs s).size = s.length := by simp [bs_size]
  go_enter Tryz.func24, Tryz.ntmps24
  go_wp2_with fail
  go_loopg [3, 4, 5] (s.length + 1) (fun g o f i wr => ∃ (k fr : Nat) (L : List (List UInt8)) (a : Option Addr) (c : Nat), k ≤ s.length + 1 ∧ g = s.length + 1 - k ∧ o = .slice a L.length c ∧ f = .int .i64 (fr : Int) ∧ i = .int .i64 (k : Int) ∧ Hid (LinesAt s k fr L ∧ L.length ≤ k ∧ wr.ownsRow w.heap.size 9 1 (.slice a L.length c) L.length (strRow L) ∧ Below w.heap.size w wr))
  case atStart => exact ⟨0, 0, [], none, 0, by omega, by omega, rfl, rfl, rfl, Lib.hid ⟨LinesAt.start s, Nat.le_refl _, World.ownsRow_nil _ _ _ _, Below.refl _ _⟩⟩
  case round =>
    obtain ⟨k, fr, L, a, c, hk, rfl, rfl, rfl, rfl, HR⟩ := hrel
    by_cases hend : s.length < k
    · have HL := Lib.hid (HR.out.1.done hend)
      go_wp2_with fail
      go_ret
      rw [HL.out]
      exact ⟨a, c, rfl, HR.out.2.2.1, HR.out.2.2.2⟩
    · by_cases hlt : k < s.length
      · have hk' : k < (bs s).size := by rw [hsz]; exact hlt
        have hbk : (bs s)[k] = s[k] := by simp [bs, ByteArray.getElem_eq_getElem_data]
        have e1 : (((k : Nat) : Int) == ((s.length : Nat) : Int)) = false := by rw [beq_eq_false_iff_ne]; omega
        by_cases hn : s[k] = 10
        · have e2 : ((((bs s)[k].toNat : Nat) : Int) == 10) = true := by rw [hbk, hn]; rfl
          clear hbk
          obtain ⟨hA, hfr⟩ := HR.out.1.line hlt hn
          have hx : (bs s).extract fr k = bs ((s.take k).drop fr) := extract_bs s fr k
          generalize (s.take k).drop fr = sg at *
          have HA := Lib.hid hA; clear hA
          clear hn
          have HWA := Lib.hid (below_new wr (.cells #[.string (bs sg)] 9))
          have HO : Hid (World.ownsRow (wr.alloc (.cells #[.string (bs sg)] 9)) w.heap.size 9 1 (.slice a L.length c) L.length (strRow L)) := Lib.hid (own_below HR.out.2.2.1 HWA.out)
          have HNW : Hid (∀ j u, [Value.string (bs sg)][j]? = some u → (wr.alloc (.cells #[.string (bs sg)] 9)).cell? ((⟨wr.heap.size, 0, none⟩ : Addr).add j) = some u) := Lib.hid (World.news_of_block (cs := #[.string (bs sg)]) (t := 9) (fr := (0, 0)) (heap_alloc_new wr _))
          have HG : Hid (∀ w5, (wr.alloc (.cells #[.string (bs sg)] 9)).grownBy w5 (Value.slice a L.length c).ownBlock → Below w.heap.size w w5) := Lib.hid fun w5 hg => (below_step HR.out.2.2.2 HWA.out).grown hg (Nat.le_trans HR.out.2.2.2.size HWA.out.size) (fun k hk => (HO.out.lt k hk).1)
          obtain ⟨i0, hi, hz0, hz1, hz2⟩ := info_parts info_string
          have hLk := HR.out.2.1
          have hBz := HR.out.2.2.2.size
          go_wp2_with (at_builtin; refine wpList_append_lies _ rfl _ _ _ rfl w.heap.size 9 i0 _ 1 16 Tryz.underlying40 hi hz0 hz1 hz2 rfl (by decide) (.slice a L.length c) L.length (strRow L) rfl HO.out ⟨wr.heap.size, 0, none⟩ 1 1 [.string (bs sg)] rfl rfl HNW.out (by simp [Value.oneCell']) (by decide) ?c1 ?c2 ?c3 (wr.heap.size + 1) (by simp) ?_)
          case c1 => unfold maxLen; omega
          case c2 => omega
          case c3 => first | omega | (simp; omega)
          intro g' cap w5 hown hgrow hat hl2
          have HW5 := Lib.hid (HG.out w5 hgrow)
          have HN5 : Hid (w5.ownsRow w.heap.size 9 1 (.slice (some ⟨g', 0, none⟩) (L ++ [sg]).length cap) (L ++ [sg]).length (strRow (L ++ [sg]))) := Lib.hid (by
            have e1 : (L ++ [sg]).length = L.length + 1 := by simp
            have e2 : strRow (L ++ [sg]) = strRow L ++ [.string (bs sg)] := by simp [strRow]
            rw [e1, e2]; exact hown)
          clear hown hgrow hat hx
          have e9 : IntKind.i64.wrap ((k : Int) + 1) = (k : Int) + 1 := IntWalk.i64_in _ (by omega)
          go_wp2_with fail
          go_roundg (s.length + 1 - (k + 1))
          case rel => exact ⟨k + 1, k + 1, L ++ [sg], some ⟨g', 0, none⟩, cap, by omega, rfl, by simp, by go_num, by go_num, Lib.hid ⟨HA.out, by simp; omega, HN5.out, HW5.out⟩⟩
          case measure => omega
        · have e2 : ((((bs s)[k].toNat : Nat) : Int) == 10) = false := by
            rw [hbk, beq_eq_false_iff_ne]; intro h; exact hn (UInt8.toNat_inj.1 (by have : (10 : UInt8).toNat = 10 := rfl; omega))
          have HS := Lib.hid (HR.out.1.step hlt hn)
          clear hbk hn
          have e9 : IntKind.i64.wrap ((k : Int) + 1) = (k : Int) + 1 := IntWalk.i64_in _ (by omega)
          go_wp2_with fail
          go_roundg (s.length + 1 - (k + 1))
          case rel => exact ⟨k + 1, fr, L, a, c, by omega, rfl, rfl, rfl, by go_num, Lib.hid ⟨HS.out, by have := HR.out.2.1; omega, HR.out.2.2⟩⟩
          case measure => omega
      · obtain rfl : k = s.length := by omega
        have e1 : (((s.length : Nat) : Int) == ((s.length : Nat) : Int)) = true := by simp
        obtain ⟨hA, hfr⟩ := HR.out.1.last
        have hx : (bs s).extract fr s.length = bs ((s.take s.length).drop fr) := extract_bs s fr s.length
        generalize (s.take s.length).drop fr = sg at *
        have HA := Lib.hid hA; clear hA
        
        have HWA := Lib.hid (below_new wr (.cells #[.string (bs sg)] 9))
        have HO : Hid (World.ownsRow (wr.alloc (.cells #[.string (bs sg)] 9)) w.heap.size 9 1 (.slice a L.length c) L.length (strRow L)) := Lib.hid (own_below HR.out.2.2.1 HWA.out)
        have HNW : Hid (∀ j u, [Value.string (bs sg)][j]? = some u → (wr.alloc (.cells #[.string (bs sg)] 9)).cell? ((⟨wr.heap.size, 0, none⟩ : Addr).add j) = some u) := Lib.hid (World.news_of_block (cs := #[.string (bs sg)]) (t := 9) (fr := (0, 0)) (heap_alloc_new wr _))
        have HG : Hid (∀ w5, (wr.alloc (.cells #[.string (bs sg)] 9)).grownBy w5 (Value.slice a L.length c).ownBlock → Below w.heap.size w w5) := Lib.hid fun w5 hg => (below_step HR.out.2.2.2 HWA.out).grown hg (Nat.le_trans HR.out.2.2.2.size HWA.out.size) (fun k hk => (HO.out.lt k hk).1)
        obtain ⟨i0, hi, hz0, hz1, hz2⟩ := info_parts info_string
        have hLk := HR.out.2.1
        have hBz := HR.out.2.2.2.size
        go_wp2_with (at_builtin; refine wpList_append_lies _ rfl _ _ _ rfl w.heap.size 9 i0 _ 1 16 Tryz.underlying40 hi hz0 hz1 hz2 rfl (by decide) (.slice a L.length c) L.length (strRow L) rfl HO.out ⟨wr.heap.size, 0, none⟩ 1 1 [.string (bs sg)] rfl rfl HNW.out (by simp [Value.oneCell']) (by decide) ?c1 ?c2 ?c3 (wr.heap.size + 1) (by simp) ?_)
        case c1 => unfold maxLen; omega
        case c2 => omega
        case c3 => first | omega | (simp; omega)
        intro g' cap w5 hown hgrow hat hl2
        have HW5 := Lib.hid (HG.out w5 hgrow)
        have HN5 : Hid (w5.ownsRow w.heap.size 9 1 (.slice (some ⟨g', 0, none⟩) (L ++ [sg]).length cap) (L ++ [sg]).length (strRow (L ++ [sg]))) := Lib.hid (by
          have e1 : (L ++ [sg]).length = L.length + 1 := by simp
          have e2 : strRow (L ++ [sg]) = strRow L ++ [.string (bs sg)] := by simp [strRow]
          rw [e1, e2]; exact hown)
        clear hown hgrow hat hx
        have e9 : IntKind.i64.wrap ((s.length : Int) + 1) = (s.length : Int) + 1 := IntWalk.i64_in _ (by omega)
        go_wp2_with fail
        go_roundg (s.length + 1 - (s.length + 1))
        case rel => exact ⟨s.length + 1, s.length + 1, L ++ [sg], some ⟨g', 0, none⟩, cap, by omega, rfl, by simp, by go_num, by go_num, Lib.hid ⟨HA.out, by simp; omega, HN5.out, HW5.out⟩⟩
        case measure => omega
end Go.Proofs.YtcaclijkkbhfhaaGreatDoor
