/-
  The reference's generators on paper: pick, the plan and the scenario that integers determine.
  Contracts of the two picks; integers in arrays.
  What the reference's Made keeps in memory.
  Two plans side by side; one of them is changed in one place.
  The reference's scenario on paper.
  The contract of the reference's Chosen.
-/
import Derived.Test.YtjdhjlhcdpekbaaQpBa
import Derived.Test.YtjdhjlhcdpekbaaSmall
import Derived.Test.YtjdhjlhcdpekbaaQpBb
import Derived.Deep.AppendLies
import Derived.StillTailTactics
import Derived.BigRegion
import Derived.WalkMore
import Derived.Deep.LoopGhost
import Derived.Deep.DeepCutAuto
import Derived.Deep.RegionHeld3
import Derived.Deep.RegionLaw
namespace Go.Proofs.Ytjdhjlhcdpekbaa.Pe

namespace Pl
abbrev gI (y : List Int) (j : Nat) : Int := y.getD j 0
def mainStart (mmax t late : Int) (y : List Int) : Int := if pickZ ((gI y 2).tdiv 12) 4 > 0 then late + mmax + pickZ ((gI y 2).tdiv 48) 3 else t + mmax + pickZ (gI y 2) 12
def spareStart (mmax ms mx : Int) (y : List Int) : Int := if pickZ ((gI y 3).tdiv 45) 5 = 0 then ms + pickZ ((gI y 3).tdiv 225) 6 else ms + mx + pickZ (gI y 3) 3 * mmax + pickZ ((gI y 3).tdiv 3) 15
def stMn (y : List Int) : Int := 1 + pickZ (gI y 0) 20
def stMx (y : List Int) : Int := stMn y + pickZ ((gI y 0).tdiv 20) 12
def stMt (y : List Int) : Int := pickZ (gI y 1) 6
def stSt (y : List Int) : Int := (stMt y + 1 + pickZ ((gI y 1).tdiv 6) 5) % 6
def stageOf (mmax t late : Int) (y : List Int) : Stage :=
  ⟨stMn y, stMx y, ⟨stMt y, mainStart mmax t late y⟩, ⟨stSt y, spareStart mmax (mainStart mmax t late y) (stMx y) y⟩⟩
def stageAt (mmax t late : Int) (X : List (List Int)) (i : Nat) : Stage :=
  if i < X.length then stageOf mmax t late (X.getD i []) else ⟨10, 10, ⟨i, t + 10⟩, ⟨(i : Int) + 1, t + 40⟩⟩
structure Acc where
  l : List Stage
  t : Int
  late : Int
def stagesTo (X : List (List Int)) (mmax entry : Int) : Nat → Acc
  | 0 => ⟨[], entry, entry⟩
  | k + 1 =>
    ⟨(stagesTo X mmax entry k).l ++ [stageAt mmax (stagesTo X mmax entry k).t (stagesTo X mmax entry k).late X k],
      (stageAt mmax (stagesTo X mmax entry k).t (stagesTo X mmax entry k).late X k).m.start + (stageAt mmax (stagesTo X mmax entry k).t (stagesTo X mmax entry k).late X k).mx,
      max (stageAt mmax (stagesTo X mmax entry k).t (stagesTo X mmax entry k).late X k).m.start (stageAt mmax (stagesTo X mmax entry k).t (stagesTo X mmax entry k).late X k).s.start + (stageAt mmax (stagesTo X mmax entry k).t (stagesTo X mmax entry k).late X k).mx⟩
def mkN (X : List (List Int)) : Nat := max 1 (min X.length 5)
def mkEntry (X : List (List Int)) : Int := if 0 < X.length then pickZ (gI (X.getD 0 []) 5) 50 else 100
def mkMin (X : List (List Int)) : Int := if 0 < X.length then pickZ (gI (X.getD 0 []) 4) 5 else 2
def mkMax (X : List (List Int)) : Int := if 0 < X.length then pickZ (gI (X.getD 0 []) 4) 5 + pickZ ((gI (X.getD 0 []) 4).tdiv 5) 8 else 6
def stage0 : Stage := ⟨0, 0, ⟨0, 0⟩, ⟨0, 0⟩⟩
/-- How tight the window from i to k is. -/
def winN (X : List (List Int)) (i k : Nat) : Int := if k < X.length then pickZ (gI (X.getD i []) 4 / 2 ^ k) 3 else 0
def winLim (st : List Stage) (X : List (List Int)) (i k : Nat) : Int :=
  if winN X i k > 1 then max (st.getD k stage0).s.start (st.getD k stage0).m.start - (st.getD i stage0).m.start - (st.getD i stage0).mn + pickZ (gI (X.getD k []) 5) 3 - 1 else pickZ (gI (X.getD k []) 5) 150
def winAt (st : List Stage) (X : List (List Int)) (i k : Nat) : List Win := if winN X i k > 0 then [⟨i, k, max 0 (winLim st X i k)⟩] else []
/-- The windows from stage i to the m stages behind it. -/
def winRow (st : List Stage) (X : List (List Int)) (i : Nat) : Nat → List Win
  | 0 => []
  | m + 1 => winRow st X i m ++ winAt st X i (i + 1 + m)
def winTo (st : List Stage) (X : List (List Int)) : Nat → List Win
  | 0 => []
  | i + 1 => winTo st X i ++ winRow st X i (st.length - (i + 1))
def made (X : List (List Int)) : Plan :=
  ⟨mkEntry X, mkMin X, mkMax X, (stagesTo X (mkMax X) (mkEntry X) (mkN X)).l, winTo (stagesTo X (mkMax X) (mkEntry X) (mkN X)).l X (mkN X)⟩

theorem stagesTo_len (X : List (List Int)) (a b : Int) : ∀ k, (stagesTo X a b k).l.length = k
  | 0 => rfl
  | k + 1 => by simp [stagesTo, stagesTo_len X a b k]
theorem mkMax_bd (X : List (List Int)) : 0 ≤ mkMin X ∧ mkMin X ≤ mkMax X ∧ mkMax X ≤ 11 ∧ 0 ≤ mkEntry X ∧ mkEntry X ≤ 100 := by
  unfold mkMin mkMax mkEntry
  have h1 := pickZ_bd (c := gI (X.getD 0 []) 4) (n := 5) (by omega)
  have h2 := pickZ_bd (c := (gI (X.getD 0 []) 4).tdiv 5) (n := 8) (by omega)
  have h3 := pickZ_bd (c := gI (X.getD 0 []) 5) (n := 50) (by omega)
  split
  · omega
  · omega
/-- Bounds of a stage that is made. -/
structure Small (b : Int) (x : Stage) : Prop where
  mn : 1 ≤ x.mn ∧ x.mn ≤ x.mx ∧ x.mx ≤ 31
  ne : x.m.tool ≠ x.s.tool
  mt : 0 ≤ x.m.tool ∧ x.m.tool ≤ 5
  st : 0 ≤ x.s.tool ∧ x.s.tool ≤ 5
  ms : 0 ≤ x.m.start ∧ x.m.start ≤ b
  ss : 0 ≤ x.s.start ∧ x.s.start ≤ b
theorem stage_small {a t late : Int} {X : List (List Int)} {i : Nat} (ha : 0 ≤ a ∧ a ≤ 11) (ht : 0 ≤ t) (hl : t ≤ late ∨ i = 0 ∧ t = late) (hi : i < X.length ∨ i = 0) {b : Int} (hb : late ≤ b) : Small (b + 100) (stageAt a t late X i) := by
  unfold stageAt
  split
  · generalize X.getD i [] = y
    unfold stageOf
    have hmul : 0 ≤ pickZ (gI y 3) 3 * a ∧ pickZ (gI y 3) 3 * a ≤ 22 := by
      have h := pickZ_bd (c := gI y 3) (n := 3) (by omega)
      refine ⟨Int.mul_nonneg h.1 ha.1, ?_⟩
      have := Int.mul_le_mul (show pickZ (gI y 3) 3 ≤ 2 by omega) ha.2 ha.1 (by omega)
      omega
    have h1 := pickZ_bd (c := gI y 0) (n := 20) (by omega)
    have h2 := pickZ_bd (c := (gI y 0).tdiv 20) (n := 12) (by omega)
    have h3 := pickZ_bd (c := gI y 1) (n := 6) (by omega)
    have h4 := pickZ_bd (c := (gI y 1).tdiv 6) (n := 5) (by omega)
    have h5 := pickZ_bd (c := gI y 2) (n := 12) (by omega)
    have h6 := pickZ_bd (c := (gI y 2).tdiv 48) (n := 3) (by omega)
    have h7 := pickZ_bd (c := (gI y 3).tdiv 3) (n := 15) (by omega)
    have h8 := pickZ_bd (c := (gI y 3).tdiv 225) (n := 6) (by omega)
    have hst : stSt y = (stMt y + 1 + pickZ ((gI y 1).tdiv 6) 5) % 6 := rfl
    have hms : 0 ≤ mainStart a t late y ∧ mainStart a t late y ≤ b + 25 := by unfold mainStart; split <;> omega
    have hss : 0 ≤ spareStart a (mainStart a t late y) (stMx y) y ∧ spareStart a (mainStart a t late y) (stMx y) y ≤ b + 100 := by
      unfold spareStart stMx stMn; split <;> omega
    have hmt : stMt y = pickZ (gI y 1) 6 := rfl
    exact ⟨by simp only [stMx, stMn]; omega, by simp only; omega, by simp only; omega, by simp only; omega, by simp only; omega, hss⟩
  · have : i = 0 := by omega
    subst this
    exact ⟨by simp, by simp, by simp, by simp, by simp only; omega, by simp only; omega⟩
theorem stages_small {X : List (List Int)} {a e : Int} (ha : 0 ≤ a ∧ a ≤ 11) (he : 0 ≤ e ∧ e ≤ 100) : ∀ k, k ≤ mkN X → (∀ x ∈ (stagesTo X a e k).l, Small (100 + 131 * k + 100) x) ∧ 0 ≤ (stagesTo X a e k).t ∧ (stagesTo X a e k).t ≤ (stagesTo X a e k).late ∧ (stagesTo X a e k).late ≤ 100 + 131 * k
  | 0, _ => ⟨(fun x hx => by cases hx), by simp only [stagesTo]; omega, by simp only [stagesTo]; omega, by simp only [stagesTo]; omega⟩
  | k + 1, hk => by
    obtain ⟨h1, h2, h3, h4⟩ := stages_small (X := X) ha he k (by omega)
    have hs := stage_small (X := X) (i := k) ha h2 (.inl h3) (by unfold mkN at hk; omega) h4
    refine ⟨fun x hx => ?_, ?_, ?_, ?_⟩
    · rcases List.mem_append.1 hx with hx | hx
      · have h := h1 x hx
        exact ⟨h.mn, h.ne, h.mt, h.st, by have := h.ms; omega, by have := h.ss; omega⟩
      · simp at hx; subst hx
        exact ⟨hs.mn, hs.ne, hs.mt, hs.st, by have := hs.ms; omega, by have := hs.ss; omega⟩
    · show 0 ≤ _ + _
      have := hs.ms; have := hs.mn; omega
    · show _ + _ ≤ max _ _ + _
      omega
    · show max _ _ + _ ≤ _
      have := hs.ms; have := hs.ss; have := hs.mn; omega
theorem made_stages (X : List (List Int)) : ∀ x ∈ (made X).st, Small 1000 x := fun x hx => by
  have hb := mkMax_bd X
  have h := (stages_small (X := X) (a := mkMax X) (e := mkEntry X) ⟨by omega, hb.2.2.1⟩ ⟨hb.2.2.2.1, hb.2.2.2.2⟩ (mkN X) (Nat.le_refl _)).1 x hx
  have hn : mkN X ≤ 5 := by unfold mkN; omega
  exact ⟨h.mn, h.ne, h.mt, h.st, by have := h.ms; omega, by have := h.ss; omega⟩
theorem made_len (X : List (List Int)) : (made X).st.length = mkN X := stagesTo_len _ _ _ _
theorem mkN_bd (X : List (List Int)) : 1 ≤ mkN X ∧ mkN X ≤ 5 := by unfold mkN; omega
/-! windows -/
theorem getD_small {b : Int} {l : List Stage} (h : ∀ x ∈ l, Small b x) {i : Nat} (hi : i < l.length) : Small b (l.getD i stage0) := by
  rw [List.getD_eq_getElem?_getD, List.getElem?_eq_getElem hi]; exact h _ (List.getElem_mem hi)
theorem winAt_mem {st : List Stage} {X : List (List Int)} {i k : Nat} {w : Win} (h : w ∈ winAt st X i k) : w = ⟨i, k, max 0 (winLim st X i k)⟩ := by
  unfold winAt at h; split at h
  · simpa using h
  · cases h
theorem winLim_bd {st : List Stage} {X : List (List Int)} {i k : Nat} (h : ∀ x ∈ st, Small 1000 x) (hi : i < st.length) (hk : k < st.length) : -2000 ≤ winLim st X i k ∧ winLim st X i k ≤ 2000 := by
  have h1 := getD_small h hi; have h2 := getD_small h hk
  have a1 := h1.ms; have a2 := h1.mn; have a3 := h2.ms; have a4 := h2.ss
  have q1 := pickZ_bd (c := gI (X.getD k []) 5) (n := 3) (by omega)
  have q2 := pickZ_bd (c := gI (X.getD k []) 5) (n := 150) (by omega)
  unfold winLim
  split <;> omega
theorem winRow_mem {st : List Stage} {X : List (List Int)} {i : Nat} {w : Win} : ∀ {m : Nat}, w ∈ winRow st X i m → ∃ k, i < k ∧ k < i + 1 + m ∧ w = ⟨i, k, max 0 (winLim st X i k)⟩
  | 0, h => by cases h
  | m + 1, h => by
    rcases List.mem_append.1 h with h | h
    · obtain ⟨k, h1, h2, h3⟩ := winRow_mem h
      exact ⟨k, h1, by omega, h3⟩
    · exact ⟨i + 1 + m, by omega, by omega, winAt_mem h⟩
theorem winTo_mem {st : List Stage} {X : List (List Int)} {w : Win} : ∀ {n : Nat}, n ≤ st.length → w ∈ winTo st X n → ∃ i k, i < n ∧ i < k ∧ k < st.length ∧ w = ⟨(i : Nat), (k : Nat), max 0 (winLim st X i k)⟩
  | 0, _, h => by cases h
  | n + 1, hn, h => by
    rcases List.mem_append.1 h with h | h
    · obtain ⟨i, k, h1, h2⟩ := winTo_mem (by omega) h
      exact ⟨i, k, by omega, h2⟩
    · obtain ⟨k, h1, h2, h3⟩ := winRow_mem h
      exact ⟨n, k, by omega, h1, by omega, h3⟩
theorem winAt_len (st : List Stage) (X : List (List Int)) (i k : Nat) : (winAt st X i k).length ≤ 1 := by unfold winAt; split <;> simp
theorem winRow_len (st : List Stage) (X : List (List Int)) (i : Nat) : ∀ m, (winRow st X i m).length ≤ m
  | 0 => by simp [winRow]
  | m + 1 => by
    have := winRow_len st X i m; have := winAt_len st X i (i + 1 + m)
    simp only [winRow, List.length_append]; omega
theorem winTo_len (st : List Stage) (X : List (List Int)) (h : st.length ≤ 5) : ∀ n, n ≤ 5 → (winTo st X n).length ≤ 4 * n
  | 0, _ => by simp [winTo]
  | n + 1, hn => by
    have := winTo_len st X h n (by omega); have := winRow_len st X n (st.length - (n + 1))
    simp only [winTo, List.length_append]; omega
/-- In order. -/
def Asc (l : List Win) : Prop := l.Pairwise fun a b => before a b = true
theorem okFrom_asc {n : Nat} : ∀ {l : List Win} {v : Option Win}, Asc l → (∀ w ∈ l, OkWin n w) → (∀ u, v = some u → ∀ w ∈ l, before u w = true) → okWinsFrom n v l = true
  | [], _, _, _, _ => by cases ‹Option Win› <;> rfl
  | x :: l, v, h, hw, hv => by
    have hx := okWin_iff.2 (hw x (by simp))
    have hr := okFrom_asc (v := some x) (List.pairwise_cons.1 h).2 (fun w h => hw w (List.mem_cons_of_mem _ h)) (fun u hu w h' => by injection hu with hu; subst hu; exact (List.pairwise_cons.1 h).1 w h')
    cases v with
    | none => simp [okWinsFrom, hx, hr]
    | some u => simp [okWinsFrom, hx, hr, hv u rfl x (by simp)]
theorem row_asc (st : List Stage) (X : List (List Int)) (i : Nat) : ∀ m, Asc (winRow st X i m)
  | 0 => List.Pairwise.nil
  | m + 1 => by
    refine List.pairwise_append.2 ⟨row_asc st X i m, ?_, fun a ha b hb => ?_⟩
    · unfold winAt; split
      · simp
      · exact List.Pairwise.nil
    · obtain ⟨k, h1, h2, rfl⟩ := winRow_mem ha
      have := winAt_mem hb; subst this
      simp [before]; omega
theorem winTo_asc (st : List Stage) (X : List (List Int)) : ∀ n, n ≤ st.length → Asc (winTo st X n)
  | 0, _ => List.Pairwise.nil
  | n + 1, hn => by
    refine List.pairwise_append.2 ⟨winTo_asc st X n (by omega), row_asc _ _ _ _, fun a ha b hb => ?_⟩
    obtain ⟨i, k, h1, -, -, rfl⟩ := winTo_mem (by omega) ha
    obtain ⟨k', h2, -, rfl⟩ := winRow_mem hb
    simp [before]; omega
theorem small_ok {x : Stage} (h : Small 1000 x) : OkStage x := by
  have := h.mn; have := h.mt; have := h.st; have := h.ms; have := h.ss
  exact ⟨by omega, by omega, by omega, h.ne, by omega, by omega, by omega, by omega⟩
theorem made_valid (X : List (List Int)) : Valid (made X) := by
  have hb := mkMax_bd X
  have hn := mkN_bd X
  have hl := made_len X
  have hs := made_stages X
  have hw : ∀ w ∈ (made X).wn, OkWin (made X).st.length w := fun w hw => by
    obtain ⟨i, k, h1, h2, h3, rfl⟩ := winTo_mem (n := mkN X) (st := (made X).st) (by omega) hw
    have := winLim_bd (X := X) hs (show i < (made X).st.length by omega) h3
    exact ⟨by simp, by simp only; omega, by simp only; omega, by simp only; omega⟩
  refine ⟨by show 0 ≤ mkEntry X ∧ mkEntry X ≤ _; omega, by show 0 ≤ mkMin X ∧ mkMin X ≤ mkMax X; omega, by show mkMax X ≤ _; omega, by omega, fun x hx => small_ok (hs x hx), ?_, hw, ?_⟩
  · have := winTo_len (made X).st X (by omega) (mkN X) hn.2
    exact Nat.le_trans this (by omega)
  · exact okFrom_asc (winTo_asc (made X).st X (mkN X) (by omega)) hw (fun u hu => by cases hu)
end Pl
end Go.Proofs.Ytjdhjlhcdpekbaa.Pe

namespace Go.Proofs.Ytjdhjlhcdpekbaa.Pe
open Go.RowKit

theorem refPick_any (c n : Int) (w : World) (hc : Fits c) (hn : 0 < n ∧ n ≤ 1000000000) : Calls Try.prog 61 #[.int .i64 c, .int .i64 n] w fun e w' => e = .returned (.int .i64 (pickZ c n)) ∧ w = w' := by
  obtain ⟨c1, c2⟩ := hc
  obtain ⟨n1, n2⟩ := hn
  have hne : ¬ n = 0 := by omega
  by_cases h : c < 0
  · have h0 : 0 ≤ -(c + 1) := by omega
    have E := Lib.hid (show pickZ c n = -((c + 1).tmod n) by unfold pickZ; rw [if_pos h, ← Int.neg_tmod, Int.tmod_eq_emod_of_nonneg h0])
    go_enter Try.func61, Try.ntmps61
    go_wp2
    go_ret
    exact ⟨ret_int E.out.symm, rfl⟩
  · have h0 : 0 ≤ c := by omega
    have E := Lib.hid (show pickZ c n = c % n by unfold pickZ; rw [if_neg h])
    go_enter Try.func61, Try.ntmps61
    go_wp2
    go_ret
    exact ⟨ret_int E.out.symm, rfl⟩
theorem refPick_is (c n : Int) (hc : Fits c) (hn : 0 < n ∧ n ≤ 1000000000) (w : World) : Calls Try.prog 61 #[.int .i64 c, .int .i64 n] w fun e w' => e = .returned (.int .i64 (pickZ c n)) ∧ w' = w := (refPick_any c n w hc hn).mono fun _ _ h => ⟨h.1, h.2.symm⟩
theorem fits_tdiv {c n : Int} (hc : Fits c) (hn : 1 < n) : Fits (c.tdiv n) := by
  obtain ⟨h1, h2⟩ := hc
  have : (c.tdiv n).natAbs ≤ c.natAbs := by rw [Int.natAbs_tdiv]; exact Nat.div_le_self _ _
  have h3 : c.natAbs ≤ 9223372036854775808 := by omega
  by_cases h0 : 0 ≤ c
  · have := Int.tdiv_nonneg h0 (show 0 ≤ n by omega)
    exact ⟨by omega, by omega⟩
  · have : (-c).tdiv n = -(c.tdiv n) := Int.neg_tdiv ..
    have h4 := Int.tdiv_nonneg (a := -c) (b := n) (by omega) (by omega)
    exact ⟨by omega, by omega⟩
theorem wrap_fits {c : Int} (h : Fits c) : IntKind.i64.wrap c = c := IntWalk.i64_in _ h
/-- Arrays of k integers in a slice: the reading is a list of lists. -/
def ArrsA (k : Nat) (w : World) (a : Option Addr) (c : Nat) (L : List (List Int)) : Prop :=
  L.length ≤ c ∧ c ≤ maxLen ∧ (∀ y ∈ L, y.length = k ∧ ∀ x ∈ y, Fits x) ∧ ∀ i (h : i < L.length), ∃ b off : Nat, a = some ⟨b, off, none⟩ ∧ b < w.heap.size ∧ ∀ (j : Nat) (v : Int), L[i][j]? = some v → w.cell? ⟨b, off + i * k + j, none⟩ = some (.int .i64 v)
theorem ArrsA.below {k : Nat} {w w' : World} {a : Option Addr} {c : Nat} {L : List (List Int)} (h : ArrsA k w a c L) (hb : Below w.heap.size w w') : ArrsA k w' a c L := by
  refine ⟨h.1, h.2.1, h.2.2.1, fun i hi => ?_⟩
  obtain ⟨b, off, rfl, h1, h2⟩ := h.2.2.2 i hi
  exact ⟨b, off, rfl, Nat.lt_of_lt_of_le h1 hb.size, fun j v hv => (hb.cell (p := ⟨b, off + i * k + j, none⟩) h1).trans (h2 j v hv)⟩
theorem six_list {y : List Int} (h : y.length = 6) : ∃ a b c d e f, y = [a, b, c, d, e, f] := by
  match y, h with
  | [a, b, c, d, e, f], _ => exact ⟨a, b, c, d, e, f, rfl⟩
theorem two_list {y : List Int} (h : y.length = 2) : ∃ a b, y = [a, b] := by
  match y, h with
  | [a, b], _ => exact ⟨a, b, rfl⟩
/-- Two records or rows in blocks of their own. -/
theorem ne_of_kind {w : World} {i j : Nat} {cs ds : Array Value} {t u : TypeId} (h1 : w.heap[i]? = some (.cells cs t)) (h2 : w.heap[j]? = some (.cells ds u)) (h : t ≠ u) : i ≠ j := by
  rintro rfl; rw [h1] at h2; injection h2 with h2; injection h2 with _ h2; exact h h2
end Go.Proofs.Ytjdhjlhcdpekbaa.Pe

namespace Go.Proofs.Ytjdhjlhcdpekbaa.Pe
open Go.RowKit

abbrev zeroPlan : Obj := .cells #[.int .i64 0, .int .i64 0, .int .i64 0, .slice none 0 0, .slice none 0 0] 64
/-- A plan that is built: its box is the second block behind w0, the result's box the first. -/
structure MkM (w0 : World) (q : PlanP) (w : World) : Prop where
  rb : w.heap[w0.heap.size]? = some zeroPlan
  pb : w.heap[w0.heap.size + 1]? = some (planObj q)
  srow : StO w w0.heap.size (.slice q.sa q.p.st.length q.sc) q.p.st
  wrow : WnO w w0.heap.size (.slice q.wa q.p.wn.length q.wc) q.p.wn
  bel : Below w0.heap.size w0 w
theorem MkM.ok {w0 w : World} {q : PlanP} (h : MkM w0 q w) : q.ok w := by
  obtain ⟨a, c, e, h1, -⟩ := h.srow.arg stage_len
  injection e with e1 _ e2
  obtain ⟨a', c', e', h1', -⟩ := h.wrow.arg win_len
  injection e' with e3 _ e4
  exact ⟨by rw [e1, e2]; exact h1, by rw [e3, e4]; exact h1'⟩
theorem MkM.below {w0 w w' : World} {q : PlanP} (h : MkM w0 q w) (hb : Below w.heap.size w w') : MkM w0 q w' :=
  ⟨box_below h.rb hb, box_below h.pb hb, h.srow.below hb, h.wrow.below hb, below_step h.bel hb⟩
theorem MkM.size {w0 w : World} {q : PlanP} (h : MkM w0 q w) : w0.heap.size + 1 < w.heap.size := lt_of_block h.pb
/-- A box of the call's own is written that is none of the plan's blocks. -/
theorem MkM.other {w0 w : World} {q : PlanP} (h : MkM w0 q w) {S : Nat} (hS : w0.heap.size + 1 < S) (h1 : ∀ b, (Value.slice q.sa q.p.st.length q.sc).ownBlock = some b → b ≠ S) (h2 : ∀ b, (Value.slice q.wa q.p.wn.length q.wc).ownBlock = some b → b ≠ S) (o : Nat) (u : Value) :
    MkM w0 q (w.setCell ⟨S, o, none⟩ u) := by
  have hc : Ch (fun k => k = S) w (w.setCell ⟨S, o, none⟩ u) := Ch.grown (grown_set (w := w) S o u) (fun k hk => by injection hk with hk; exact hk.symm)
  exact ⟨(hc.block _ (lt_of_block h.rb) (by omega)).trans h.rb, (hc.block _ (lt_of_block h.pb) (by omega)).trans h.pb, own_ch h.srow hc (fun k hk => h1 k hk), own_ch h.wrow hc (fun k hk => h2 k hk), h.bel.setCell (p := ⟨S, o, none⟩) (by show w0.heap.size ≤ S; omega) u⟩
theorem plan_ne {w0 w : World} {q : PlanP} (h : MkM w0 q w) : (∀ b, (Value.slice q.sa q.p.st.length q.sc).ownBlock = some b → b ≠ w0.heap.size + 1 ∧ b < w.heap.size) ∧ (∀ b, (Value.slice q.wa q.p.wn.length q.wc).ownBlock = some b → b ≠ w0.heap.size + 1 ∧ b < w.heap.size) := by
  refine ⟨fun b hb => ?_, fun b hb => ?_⟩
  · obtain ⟨cs, hcs⟩ := own_block h.srow hb
    exact ⟨ne_of_kind hcs h.pb (by decide), lt_of_block hcs⟩
  · obtain ⟨cs, hcs⟩ := own_block h.wrow hb
    exact ⟨ne_of_kind hcs h.pb (by decide), lt_of_block hcs⟩
/-- A number of the plan is written. -/
theorem MkM.num {w0 w : World} {en mi ma : Int} {st : List Pl.Stage} {wn : List Pl.Win} {sa wa : Option Addr} {sc wc : Nat} (h : MkM w0 ⟨⟨en, mi, ma, st, wn⟩, sa, sc, wa, wc⟩ w) {en' mi' ma' : Int} {o : Nat} {u : Int}
    (hu : (#[.int .i64 en, .int .i64 mi, .int .i64 ma, .slice sa st.length sc, .slice wa wn.length wc] : Array Value).setIfInBounds o (.int .i64 u) = #[.int .i64 en', .int .i64 mi', .int .i64 ma', .slice sa st.length sc, .slice wa wn.length wc]) :
    MkM w0 ⟨⟨en', mi', ma', st, wn⟩, sa, sc, wa, wc⟩ (w.setCell ⟨w0.heap.size + 1, o, none⟩ (.int .i64 u)) := by
  have hc : Ch (fun k => k = w0.heap.size + 1) w (w.setCell ⟨w0.heap.size + 1, o, none⟩ (.int .i64 u)) := Ch.grown (grown_set (w := w) _ o _) (fun k hk => by injection hk with hk; exact hk.symm)
  have hne := plan_ne h
  refine ⟨(hc.block _ (lt_of_block h.rb) (by omega)).trans h.rb, ?_, own_ch h.srow hc (fun k hk => (hne.1 k hk).1), own_ch h.wrow hc (fun k hk => (hne.2 k hk).1), h.bel.setCell (p := ⟨w0.heap.size + 1, o, none⟩) (by show w0.heap.size ≤ w0.heap.size + 1; omega) _⟩
  rw [block_set h.pb, hu]
/-- A stage is appended. -/
theorem MkM.stage {w0 w wA w3 : World} {en mi ma : Int} {st : List Pl.Stage} {sa : Option Addr} {sc : Nat} (h : MkM w0 ⟨⟨en, mi, ma, st, []⟩, sa, sc, none, 0⟩ w) (x : Pl.Stage) {a' : Option Addr} {c' : Nat} (hA : Below w.heap.size w wA)
    (hown : w3.ownsRow w0.heap.size 108 6 (.slice a' (st.length + 1) c') (st.length + 1) (st.flatMap stageCells ++ stageCells x)) (hg : wA.grownBy w3 (Value.slice sa st.length sc).ownBlock) :
    MkM w0 ⟨⟨en, mi, ma, st ++ [x], []⟩, a', c', none, 0⟩ (w3.setCell ⟨w0.heap.size + 1, 3, none⟩ (.slice a' (st.length + 1) c')) ∧ w3.heap[w0.heap.size + 1]? = some (planObj ⟨⟨en, mi, ma, st, []⟩, sa, sc, none, 0⟩) := by
  have hA' := h.below hA
  have hne := plan_ne hA'
  have hr : StO w3 w0.heap.size (.slice a' (st ++ [x]).length c') (st ++ [x]) := by rw [List.length_append]; exact RowO.snoc hown
  have hp3 : w3.heap[w0.heap.size + 1]? = some (planObj ⟨⟨en, mi, ma, st, []⟩, sa, sc, none, 0⟩) := (hg.block _ (lt_of_block hA'.pb) (fun e => (hne.1 _ e.symm).1 rfl)).trans hA'.pb
  have hr3 : w3.heap[w0.heap.size]? = some zeroPlan := by
    refine (hg.block _ (lt_of_block hA'.rb) (fun e => ?_)).trans hA'.rb
    obtain ⟨cs, hcs⟩ := own_block hA'.srow e.symm
    exact ne_of_kind hcs hA'.rb (by decide) rfl
  have hc : Ch (fun k => k = w0.heap.size + 1) w3 (w3.setCell ⟨w0.heap.size + 1, 3, none⟩ (.slice a' (st.length + 1) c')) := Ch.grown (grown_set (w := w3) _ 3 _) (fun k hk => by injection hk with hk; exact hk.symm)
  refine ⟨⟨(hc.block _ (lt_of_block hr3) (by omega)).trans hr3, ?_, own_ch hr hc (fun k hk e => ?_), RowO.nil _ _ _ _ _, ?_⟩, hp3⟩
  · rw [block_set hp3]; simp
  · obtain ⟨cs, hcs⟩ := own_block hr hk
    exact ne_of_kind hcs hp3 (by decide) e
  · exact (hA'.bel.grown hg hA'.bel.size (fun b hb => (hA'.srow.lt b hb).1)).setCell (p := ⟨w0.heap.size + 1, 3, none⟩) (by show w0.heap.size ≤ w0.heap.size + 1; omega) _
/-- A window is appended. -/
theorem MkM.win {w0 w wA w3 : World} {en mi ma : Int} {st : List Pl.Stage} {wn : List Pl.Win} {sa wa : Option Addr} {sc wc : Nat} (h : MkM w0 ⟨⟨en, mi, ma, st, wn⟩, sa, sc, wa, wc⟩ w) (x : Pl.Win) {a' : Option Addr} {c' : Nat} (hA : Below w.heap.size w wA)
    (hown : w3.ownsRow w0.heap.size 110 3 (.slice a' (wn.length + 1) c') (wn.length + 1) (wn.flatMap winCells ++ winCells x)) (hg : wA.grownBy w3 (Value.slice wa wn.length wc).ownBlock) :
    MkM w0 ⟨⟨en, mi, ma, st, wn ++ [x]⟩, sa, sc, a', c'⟩ (w3.setCell ⟨w0.heap.size + 1, 4, none⟩ (.slice a' (wn.length + 1) c')) ∧ w3.heap[w0.heap.size + 1]? = some (planObj ⟨⟨en, mi, ma, st, wn⟩, sa, sc, wa, wc⟩) := by
  have hA' := h.below hA
  have hne := plan_ne hA'
  have hr : WnO w3 w0.heap.size (.slice a' (wn ++ [x]).length c') (wn ++ [x]) := by rw [List.length_append]; exact RowO.snoc hown
  have hp3 : w3.heap[w0.heap.size + 1]? = some (planObj ⟨⟨en, mi, ma, st, wn⟩, sa, sc, wa, wc⟩) := (hg.block _ (lt_of_block hA'.pb) (fun e => (hne.2 _ e.symm).1 rfl)).trans hA'.pb
  have hr3 : w3.heap[w0.heap.size]? = some zeroPlan := by
    refine (hg.block _ (lt_of_block hA'.rb) (fun e => ?_)).trans hA'.rb
    obtain ⟨cs, hcs⟩ := own_block hA'.wrow e.symm
    exact ne_of_kind hcs hA'.rb (by decide) rfl
  have hs3 : StO w3 w0.heap.size (.slice sa st.length sc) st := by
    refine own_ch hA'.srow (Ch.grown hg (S := fun k => (Value.slice wa wn.length wc).ownBlock = some k) (fun k hk => hk)) (fun k hk e => ?_)
    obtain ⟨cs, hcs⟩ := own_block hA'.srow hk
    obtain ⟨ds, hds⟩ := own_block hA'.wrow e
    exact ne_of_kind hcs hds (by decide) rfl
  have hc : Ch (fun k => k = w0.heap.size + 1) w3 (w3.setCell ⟨w0.heap.size + 1, 4, none⟩ (.slice a' (wn.length + 1) c')) := Ch.grown (grown_set (w := w3) _ 4 _) (fun k hk => by injection hk with hk; exact hk.symm)
  refine ⟨⟨(hc.block _ (lt_of_block hr3) (by omega)).trans hr3, ?_, own_ch hs3 hc (fun k hk e => ?_), own_ch hr hc (fun k hk e => ?_), ?_⟩, hp3⟩
  · rw [block_set hp3]; simp
  · obtain ⟨cs, hcs⟩ := own_block hs3 hk
    exact ne_of_kind hcs hp3 (by decide) e
  · obtain ⟨cs, hcs⟩ := own_block hr hk
    exact ne_of_kind hcs hp3 (by decide) e
  · exact (hA'.bel.grown hg hA'.bel.size (fun b hb => (hA'.wrow.lt b hb).1)).setCell (p := ⟨w0.heap.size + 1, 4, none⟩) (by show w0.heap.size ≤ w0.heap.size + 1; omega) _
/-- The plan is copied into the result's box. -/
theorem MkM.done {w0 w : World} {en mi ma : Int} {st : List Pl.Stage} {wn : List Pl.Win} {sa wa : Option Addr} {sc wc : Nat} (h : MkM w0 ⟨⟨en, mi, ma, st, wn⟩, sa, sc, wa, wc⟩ w) :
    (StO (((((w.setCell ⟨w0.heap.size, 0, none⟩ (.int .i64 en)).setCell ⟨w0.heap.size, 1, none⟩ (.int .i64 mi)).setCell ⟨w0.heap.size, 2, none⟩ (.int .i64 ma)).setCell ⟨w0.heap.size, 3, none⟩ (.slice sa st.length sc)).setCell ⟨w0.heap.size, 4, none⟩ (.slice wa wn.length wc)) w0.heap.size (.slice sa st.length sc) st ∧
      WnO (((((w.setCell ⟨w0.heap.size, 0, none⟩ (.int .i64 en)).setCell ⟨w0.heap.size, 1, none⟩ (.int .i64 mi)).setCell ⟨w0.heap.size, 2, none⟩ (.int .i64 ma)).setCell ⟨w0.heap.size, 3, none⟩ (.slice sa st.length sc)).setCell ⟨w0.heap.size, 4, none⟩ (.slice wa wn.length wc)) w0.heap.size (.slice wa wn.length wc) wn ∧
      Below w0.heap.size w0 (((((w.setCell ⟨w0.heap.size, 0, none⟩ (.int .i64 en)).setCell ⟨w0.heap.size, 1, none⟩ (.int .i64 mi)).setCell ⟨w0.heap.size, 2, none⟩ (.int .i64 ma)).setCell ⟨w0.heap.size, 3, none⟩ (.slice sa st.length sc)).setCell ⟨w0.heap.size, 4, none⟩ (.slice wa wn.length wc))) ∧
    (((((w.setCell ⟨w0.heap.size, 0, none⟩ (.int .i64 en)).setCell ⟨w0.heap.size, 1, none⟩ (.int .i64 mi)).setCell ⟨w0.heap.size, 2, none⟩ (.int .i64 ma)).setCell ⟨w0.heap.size, 3, none⟩ (.slice sa st.length sc)).setCell ⟨w0.heap.size, 4, none⟩ (.slice wa wn.length wc)).heap[w0.heap.size]? = some (.cells #[.int .i64 en, .int .i64 mi, .int .i64 ma, .slice sa st.length sc, .slice wa wn.length wc] 64) := by
  have one : ∀ (v : World) (o : Nat) (u : Value), Ch (fun k => k = w0.heap.size) v (v.setCell ⟨w0.heap.size, o, none⟩ u) := fun v o u => Ch.grown (grown_set (w := v) _ o _) (fun k hk => by injection hk with hk; exact hk.symm)
  have hc := ((((one w 0 (.int .i64 en)).trans (one _ 1 (.int .i64 mi)) (fun _ _ h => h)).trans (one _ 2 (.int .i64 ma)) (fun _ _ h => h)).trans (one _ 3 (.slice sa st.length sc)) (fun _ _ h => h)).trans (one _ 4 (.slice wa wn.length wc)) (fun _ _ h => h)
  refine ⟨⟨own_ch h.srow hc (fun k hk e => ?_), own_ch h.wrow hc (fun k hk e => ?_), ?_⟩, ?_⟩
  · obtain ⟨cs, hcs⟩ := own_block h.srow hk
    exact ne_of_kind hcs h.rb (by decide) e
  · obtain ⟨cs, hcs⟩ := own_block h.wrow hk
    exact ne_of_kind hcs h.rb (by decide) e
  · have up : ∀ (v : World) (o : Nat) (u : Value), Below w0.heap.size w0 v → Below w0.heap.size w0 (v.setCell ⟨w0.heap.size, o, none⟩ u) := fun v o u hv => hv.setCell (p := ⟨w0.heap.size, o, none⟩) (Nat.le_refl _) u
    exact up _ _ _ (up _ _ _ (up _ _ _ (up _ _ _ (up _ _ _ h.bel))))
  · rw [block_set (block_set (block_set (block_set (block_set h.rb (o := 0) (.int .i64 en)) (o := 1) (.int .i64 mi)) (o := 2) (.int .i64 ma)) (o := 3) (.slice sa st.length sc)) (o := 4) (.slice wa wn.length wc)]; rfl
/-- A box beside the plan. -/
structure Fil (w0 : World) (q : PlanP) (S : Nat) (cs : Array Value) (t : TypeId) (w : World) : Prop where
  m : MkM w0 q w
  box : w.heap[S]? = some (.cells cs t)
  hi : w0.heap.size + 1 < S
  s : ∀ b, (Value.slice q.sa q.p.st.length q.sc).ownBlock = some b → b ≠ S
  w : ∀ b, (Value.slice q.wa q.p.wn.length q.wc).ownBlock = some b → b ≠ S
theorem Fil.below {w0 : World} {q : PlanP} {S : Nat} {cs : Array Value} {t : TypeId} {w w' : World} (h : Fil w0 q S cs t w) (hb : Below w.heap.size w w') : Fil w0 q S cs t w' := ⟨h.m.below hb, box_below h.box hb, h.hi, h.s, h.w⟩
theorem Fil.new {w0 : World} {q : PlanP} {w : World} (h : MkM w0 q w) (cs : Array Value) (t : TypeId) : Fil w0 q w.heap.size cs t (w.alloc (.cells cs t)) :=
  ⟨h.below (below_new _ _), heap_alloc_new _ _, h.size, fun b hb => Nat.ne_of_lt ((plan_ne h).1 b hb).2, fun b hb => Nat.ne_of_lt ((plan_ne h).2 b hb).2⟩
theorem Fil.set {w0 : World} {q : PlanP} {S : Nat} {cs : Array Value} {t : TypeId} {w : World} (h : Fil w0 q S cs t w) (o : Nat) (u : Value) : Fil w0 q S (cs.setIfInBounds o u) t (w.setCell ⟨S, o, none⟩ u) :=
  ⟨h.m.other h.hi h.s h.w o u, block_set h.box u, h.hi, h.s, h.w⟩
theorem Fil.drew {w0 : World} {q : PlanP} {S : Nat} {cs : Array Value} {t : TypeId} {w : World} (h : Fil w0 q S cs t w) : Fil w0 q S cs t w.drew := h.below (Below.refl _ _).drew
end Go.Proofs.Ytjdhjlhcdpekbaa.Pe

namespace Go.Proofs.Ytjdhjlhcdpekbaa.Pe
open Go.RowKit

/-- One number of a row of records is changed. -/
theorem RowA.setField {α : Type} {f : α → List Value} {k : Nat} (hf : ∀ x, (f x).length = k) {w : World} {g c : Nat} {L : List α} (h : RowA f k w (some ⟨g, 0, none⟩) c L) {cs : Array Value} {t : TypeId} (hg : w.heap[g]? = some (.cells cs t)) {i o : Nat} (hi : i < L.length) (ho : o < k) {x : α} {u : Value}
    (hx : f x = (f L[i]).set o u) : RowA f k (w.setCell ⟨g, 0 + i * k + o, none⟩ u) (some ⟨g, 0, none⟩) c (L.set i x) := by
  refine ⟨by rw [List.length_set]; exact h.1, h.2.1, fun j hj => ⟨g, 0, rfl, ?_, fun m v hv => ?_⟩⟩
  · have := lt_of_block hg; simpa [World.setCell] using this
  · rw [List.length_set] at hj
    obtain ⟨g', o', e, _, hc⟩ := h.2.2 j hj
    injection e with e; injection e with e1 e2; subst e1; subst e2
    have hb := block_set hg (o := 0 + i * k + o) u
    by_cases hji : j = i ∧ m = o
    · obtain ⟨rfl, rfl⟩ := hji
      rw [List.getElem_set_self, hx] at hv
      have hm : m < (f L[j]).length := by rw [hf]; exact ho
      rw [List.getElem?_set_self hm] at hv
      injection hv with hv; subst hv
      refine box_cell hb _ _ ?_
      have hin : 0 + j * k + m < cs.size := by
        have := hc m (f L[j])[m] (List.getElem?_eq_getElem hm)
        simp only [World.cell?, hg] at this
        exact (Array.getElem?_eq_some_iff.1 this).1
      rw [Array.getElem?_setIfInBounds_self, if_pos hin]
    · have hold : (f L[j])[m]? = some v := by
        by_cases e : j = i
        · subst e
          rw [List.getElem_set_self, hx, List.getElem?_set_ne (by intro e; exact hji ⟨rfl, e.symm⟩)] at hv
          exact hv
        · rw [List.getElem_set_ne (by omega)] at hv; exact hv
      have hm : m < k := by rw [← hf L[j]]; exact (List.getElem?_eq_some_iff.1 hold).1
      have := hc m v hold
      simp only [World.cell?, hg] at this
      refine box_cell hb _ _ ?_
      rw [Array.getElem?_setIfInBounds_ne ?_]
      · exact this
      · intro e
        have h1 : i * k + o = j * k + m := by omega
        have h2 : j = i := by
          rcases Nat.lt_trichotomy j i with h3 | h3 | h3
          · exfalso
            have h4 : (j + 1) * k ≤ i * k := Nat.mul_le_mul_right k h3
            rw [Nat.succ_mul] at h4; omega
          · exact h3
          · exfalso
            have h4 : (i + 1) * k ≤ j * k := Nat.mul_le_mul_right k h3
            rw [Nat.succ_mul] at h4; omega
        subst h2
        exact hji ⟨rfl, by omega⟩
/-- Two plans, each in a box and with rows of its own. -/
structure TwoM (W : World) (B n8 n9 : Nat) (p q : PlanP) (w : World) : Prop where
  pb : w.heap[n8]? = some (planObj p)
  qb : w.heap[n9]? = some (planObj q)
  ps : StA w p.sa p.sc p.p.st
  pw : WnA w p.wa p.wc p.p.wn
  pl : (∀ x, p.sa = some x → x.block < B) ∧ (∀ x, p.wa = some x → x.block < B) ∧ n8 < B
  qs : StO w B (.slice q.sa q.p.st.length q.sc) q.p.st
  qw : WnO w B (.slice q.wa q.p.wn.length q.wc) q.p.wn
  hi : B ≤ n9
  bel : Below W.heap.size W w
  lo : W.heap.size ≤ B
/-- What the switch leaves. -/
structure Apart (W : World) (n8 n9 : Nat) (p q : PlanP) (w : World) : Prop where
  pb : w.heap[n8]? = some (planObj p)
  qb : w.heap[n9]? = some (planObj q)
  po : p.ok w
  qo : q.ok w
  bel : Below W.heap.size W w
  ne : p.p ≠ q.p
theorem TwoM.qne {W : World} {B n8 n9 : Nat} {p q : PlanP} {w : World} (h : TwoM W B n8 n9 p q w) : (∀ b, (Value.slice q.sa q.p.st.length q.sc).ownBlock = some b → b ≠ n9 ∧ B ≤ b) ∧ (∀ b, (Value.slice q.wa q.p.wn.length q.wc).ownBlock = some b → b ≠ n9 ∧ B ≤ b) := by
  refine ⟨fun b hb => ?_, fun b hb => ?_⟩
  · obtain ⟨cs, hcs⟩ := own_block h.qs hb
    exact ⟨ne_of_kind hcs h.qb (by decide), (h.qs.lt b hb).1⟩
  · obtain ⟨cs, hcs⟩ := own_block h.qw hb
    exact ⟨ne_of_kind hcs h.qb (by decide), (h.qw.lt b hb).1⟩
theorem TwoM.arg {W : World} {B n8 n9 : Nat} {p q : PlanP} {w : World} (h : TwoM W B n8 n9 p q w) : q.ok w := by
  obtain ⟨a, c, e, h1, -⟩ := h.qs.arg stage_len
  injection e with e1 _ e2
  obtain ⟨a', c', e', h1', -⟩ := h.qw.arg win_len
  injection e' with e3 _ e4
  exact ⟨by rw [e1, e2]; exact h1, by rw [e3, e4]; exact h1'⟩
theorem TwoM.step {W : World} {B n8 n9 : Nat} {p q : PlanP} {w w' : World} (h : TwoM W B n8 n9 p q w) (hb : Below w.heap.size w w') : TwoM W B n8 n9 p q w' :=
  ⟨box_below h.pb hb, box_below h.qb hb, h.ps.below hb, h.pw.below hb, h.pl, h.qs.below hb, h.qw.below hb, h.hi, below_step h.bel hb, h.lo⟩
/-- What is kept where only blocks from B on are written. -/
theorem TwoM.old {W : World} {B n8 n9 : Nat} {p q : PlanP} {w w' : World} (h : TwoM W B n8 n9 p q w) {S : Nat → Prop} (hc : Ch S w w') (hS : ∀ k, S k → B ≤ k) : w'.heap[n8]? = some (planObj p) ∧ p.ok w' ∧ Below W.heap.size W w' := by
  have hp := h.pl
  refine ⟨(hc.block _ (lt_of_block h.pb) (fun e => by have := hS _ e; omega)).trans h.pb, ⟨h.ps.ch hc (fun x hx e => by have := hS _ e; have := hp.1 x hx; omega), h.pw.ch hc (fun x hx e => by have := hS _ e; have := hp.2.1 x hx; omega)⟩, ?_⟩
  exact h.bel.trans (hc.below (by exact h.bel.size) (fun k hk => Nat.le_trans h.lo (hS k hk)))
theorem one_ch (w : World) (b o : Nat) (u : Value) : Ch (fun k => k = b) w (w.setCell ⟨b, o, none⟩ u) := Ch.grown (grown_set (w := w) b o u) (fun k hk => by injection hk with hk; exact hk.symm)
/-- A cell of the box is written. -/
theorem TwoM.box {W : World} {B n8 n9 : Nat} {p : PlanP} {en mi ma : Int} {st : List Pl.Stage} {wn : List Pl.Win} {sa wa : Option Addr} {sc wc : Nat} {w : World} (h : TwoM W B n8 n9 p ⟨⟨en, mi, ma, st, wn⟩, sa, sc, wa, wc⟩ w) {o : Nat} {u : Value} {en' mi' ma' : Int} {st' : List Pl.Stage}
    (hu : (#[.int .i64 en, .int .i64 mi, .int .i64 ma, .slice sa st.length sc, .slice wa wn.length wc] : Array Value).setIfInBounds o u = #[.int .i64 en', .int .i64 mi', .int .i64 ma', .slice sa st'.length sc, .slice wa wn.length wc])
    (hst : ∀ v, StA v sa sc st → StA v sa sc st') (hne : p.p ≠ ⟨en', mi', ma', st', wn⟩) : Apart W n8 n9 p ⟨⟨en', mi', ma', st', wn⟩, sa, sc, wa, wc⟩ (w.setCell ⟨n9, o, none⟩ u) := by
  have hc := one_ch w n9 o u
  obtain ⟨h1, h2, h3⟩ := h.old hc (fun k hk => by have := h.hi; omega)
  have hq := h.qne
  have hs := own_ch h.qs hc (fun k hk e => (hq.1 k hk).1 e)
  have hw := own_ch h.qw hc (fun k hk e => (hq.2 k hk).1 e)
  obtain ⟨a, c, e, k1, -⟩ := RowO.arg stage_len hs
  injection e with e1 _ e2
  obtain ⟨a', c', e', k2, -⟩ := RowO.arg win_len hw
  injection e' with e3 _ e4
  simp only at e1 e2 e3 e4
  subst e1; subst e2; subst e3; subst e4
  exact ⟨h1, by rw [block_set h.qb, hu], h2, ⟨hst _ k1, k2⟩, h3, hne⟩
/-- A number of a stage is written. -/
theorem TwoM.field {W : World} {B n8 n9 : Nat} {p : PlanP} {en mi ma : Int} {st : List Pl.Stage} {wn : List Pl.Win} {sa wa : Option Addr} {sc wc : Nat} {w : World} (h : TwoM W B n8 n9 p ⟨⟨en, mi, ma, st, wn⟩, sa, sc, wa, wc⟩ w) {i o : Nat} {u : Value} {x : Pl.Stage} (hi : i < st.length) (ho : o < 6)
    (hx : stageCells x = (stageCells st[i]).set o u) {g : Nat} (hg : sa = some ⟨g, 0, none⟩) (hne : p.p ≠ ⟨en, mi, ma, st.set i x, wn⟩) : Apart W n8 n9 p ⟨⟨en, mi, ma, st.set i x, wn⟩, sa, sc, wa, wc⟩ (w.setCell ⟨g, 0 + i * 6 + o, none⟩ u) := by
  have hq := h.qne
  have hgo : (Value.slice sa st.length sc).ownBlock = some g := by rw [hg]; rfl
  obtain ⟨hg9, hgB⟩ := hq.1 g hgo
  obtain ⟨cs, hcs⟩ := own_block h.qs hgo
  have hc := one_ch w g (0 + i * 6 + o) u
  obtain ⟨h1, h2, h3⟩ := h.old hc (fun k hk => by omega)
  have hw := own_ch h.qw hc (fun k hk e => by
    obtain ⟨ds, hds⟩ := own_block h.qw hk
    exact ne_of_kind hds hcs (by decide) e)
  obtain ⟨a', c', e', k2, -⟩ := RowO.arg win_len hw
  injection e' with e3 _ e4
  simp only at e3 e4
  subst e3; subst e4
  have hs := h.arg.st
  simp only at hs
  subst hg
  exact ⟨h1, by rw [hc.block _ (lt_of_block h.qb) (fun e => hg9 e.symm), h.qb]; simp [planObj], h2, ⟨hs.setField stage_len hcs hi ho hx, k2⟩, h3, hne⟩
/-- A window is appended. -/
theorem TwoM.win {W : World} {B n8 n9 : Nat} {p : PlanP} {en mi ma : Int} {st : List Pl.Stage} {wn : List Pl.Win} {sa wa : Option Addr} {sc wc : Nat} {w wA w3 : World} (h : TwoM W B n8 n9 p ⟨⟨en, mi, ma, st, wn⟩, sa, sc, wa, wc⟩ w) (x : Pl.Win) {a' : Option Addr} {c' : Nat} (hA : Below w.heap.size w wA)
    (hown : w3.ownsRow B 110 3 (.slice a' (wn.length + 1) c') (wn.length + 1) (wn.flatMap winCells ++ winCells x)) (hg : wA.grownBy w3 (Value.slice wa wn.length wc).ownBlock) (hne : p.p ≠ ⟨en, mi, ma, st, wn ++ [x]⟩) :
    Apart W n8 n9 p ⟨⟨en, mi, ma, st, wn ++ [x]⟩, sa, sc, a', c'⟩ (w3.setCell ⟨n9, 4, none⟩ (.slice a' (wn.length + 1) c')) ∧ w3.heap[n9]? = some (planObj ⟨⟨en, mi, ma, st, wn⟩, sa, sc, wa, wc⟩) := by
  have hq := h.qne
  have h1 : Ch (fun k => (Value.slice wa wn.length wc).ownBlock = some k) w w3 := (Ch.ofBelow hA).trans (Ch.grown hg (S := fun k => (Value.slice wa wn.length wc).ownBlock = some k) (fun k hk => hk)) (fun _ _ h => h)
  have hq9 : w3.heap[n9]? = some (planObj ⟨⟨en, mi, ma, st, wn⟩, sa, sc, wa, wc⟩) := (h1.block _ (lt_of_block h.qb) (fun e => (hq.2 _ e).1 rfl)).trans h.qb
  have hc : Ch (fun k => (Value.slice wa wn.length wc).ownBlock = some k ∨ k = n9) w (w3.setCell ⟨n9, 4, none⟩ (.slice a' (wn.length + 1) c')) := (h1.mono (S' := fun k => (Value.slice wa wn.length wc).ownBlock = some k ∨ k = n9) (fun _ h => .inl h)).trans ((one_ch w3 n9 4 _).mono (fun _ h => .inr h)) (fun _ _ h => h)
  obtain ⟨k1, k2, k3⟩ := h.old hc (fun k hk => by rcases hk with hk | hk; (exact (hq.2 k hk).2); (have := h.hi; omega))
  have hs := own_ch h.qs hc (fun k hk e => by
    rcases e with e | e
    · obtain ⟨cs, hcs⟩ := own_block h.qs hk
      obtain ⟨ds, hds⟩ := own_block h.qw e
      exact ne_of_kind hcs hds (by decide) rfl
    · exact (hq.1 k hk).1 e)
  have hr : WnO w3 B (.slice a' (wn ++ [x]).length c') (wn ++ [x]) := by rw [List.length_append]; exact RowO.snoc hown
  have hr2 := own_ch hr (one_ch w3 n9 4 (.slice a' (wn.length + 1) c')) (fun k hk e => by
    obtain ⟨cs, hcs⟩ := own_block hr hk
    exact ne_of_kind hcs hq9 (by decide) e)
  obtain ⟨b1, d1, e, m1, -⟩ := RowO.arg stage_len hs
  injection e with e1 _ e2
  obtain ⟨b2, d2, e', m2, -⟩ := RowO.arg win_len hr2
  injection e' with e3 _ e4
  simp only at e1 e2
  subst e1; subst e2; subst e3; subst e4
  exact ⟨⟨k1, by rw [block_set hq9]; simp, k2, ⟨m1, m2⟩, k3, hne⟩, hq9⟩
end Go.Proofs.Ytjdhjlhcdpekbaa.Pe

namespace Go.Proofs.Ytjdhjlhcdpekbaa.Pe.Pl

def twoAt (Y : List (List Int)) (i : Nat) : List Int := if i < Y.length then Y.getD i [] else [0, 0]
abbrev stAt (p : Plan) (i : Nat) : Stage := p.st.getD i stage0
def durAt (p : Plan) (Y : List (List Int)) (i : Nat) : Int := (stAt p i).mn + pickZ (gI (twoAt Y i) 0) ((stAt p i).mx - (stAt p i).mn + 1)
def mvAt (p : Plan) (Y : List (List Int)) (i : Nat) : Int := p.mmin + pickZ (gI (twoAt Y i) 1) (p.mmax - p.mmin + 1)
def chDet (p : Plan) (Y : List (List Int)) : Int := if 0 < Y.length then p.mmin + pickZ ((gI (Y.getD 0 []) 0).tdiv 7) (p.mmax - p.mmin + 1) else p.mmin
def chI (p : Plan) (tool : Int) : Nat := (pickZ (tool.tdiv 4) p.st.length).toNat
def chTool (p : Plan) (tool : Int) : Int := if pickZ tool 4 > 0 then (stAt p (chI p tool)).m.tool else -1
def chAt (p : Plan) (tool at_ : Int) : Int :=
  if pickZ tool 4 > 0 then (if pickZ at_ 3 > 0 then max 0 ((stAt p (chI p tool)).m.start - 20 + pickZ (at_.tdiv 3) 50) else pickZ at_ ((stAt p (p.st.length - 1)).s.start + 50)) else 0
def dursTo (p : Plan) (Y : List (List Int)) (k : Nat) : List Int := (List.range k).map (durAt p Y)
def mvsTo (p : Plan) (Y : List (List Int)) (k : Nat) : List Int := (List.range k).map (mvAt p Y)
def chosen (p : Plan) (Y : List (List Int)) (tool at_ : Int) : Scen := ⟨dursTo p Y p.st.length, mvsTo p Y p.st.length, chDet p Y, chTool p tool, chAt p tool at_⟩
theorem dursTo_succ (p : Plan) (Y : List (List Int)) (k : Nat) : dursTo p Y (k + 1) = dursTo p Y k ++ [durAt p Y k] := by simp [dursTo, List.range_succ]
theorem mvsTo_succ (p : Plan) (Y : List (List Int)) (k : Nat) : mvsTo p Y (k + 1) = mvsTo p Y k ++ [mvAt p Y k] := by simp [mvsTo, List.range_succ]
theorem dursTo_len (p : Plan) (Y : List (List Int)) (k : Nat) : (dursTo p Y k).length = k := by simp [dursTo]
theorem mvsTo_len (p : Plan) (Y : List (List Int)) (k : Nat) : (mvsTo p Y k).length = k := by simp [mvsTo]
theorem dursTo_at (p : Plan) (Y : List (List Int)) (n k : Nat) (h : k < n) : (dursTo p Y n).getD k 0 = durAt p Y k := by
  unfold dursTo; rw [List.getD_eq_getElem?_getD]; simp [h]
theorem mvsTo_at (p : Plan) (Y : List (List Int)) (n k : Nat) (h : k < n) : (mvsTo p Y n).getD k 0 = mvAt p Y k := by
  unfold mvsTo; rw [List.getD_eq_getElem?_getD]; simp [h]
/-- What the generator needs of a plan. -/
structure Fine (p : Plan) : Prop where
  v : Valid p
  s : ∀ x ∈ p.st, Small 1000 x
  n : p.st.length ≤ 5
  m : p.mmax ≤ 11
theorem Fine.at {p : Plan} (h : Fine p) {i : Nat} (hi : i < p.st.length) : Small 1000 (stAt p i) := getD_small h.s hi
theorem made_fine (X : List (List Int)) : Fine (made X) := ⟨made_valid X, made_stages X, by rw [made_len]; exact (mkN_bd X).2, (mkMax_bd X).2.2.1⟩
theorem chI_lt {p : Plan} (h : Fine p) (tool : Int) : chI p tool < p.st.length := by
  have hl := h.v.len
  have := pickZ_bd (c := tool.tdiv 4) (n := p.st.length) (by omega)
  unfold chI; omega
theorem durAt_bd {p : Plan} (h : Fine p) (Y : List (List Int)) {i : Nat} (hi : i < p.st.length) : (stAt p i).mn ≤ durAt p Y i ∧ durAt p Y i ≤ (stAt p i).mx := by
  have h1 := (h.at hi).mn
  have := pickZ_bd (c := gI (twoAt Y i) 0) (n := (stAt p i).mx - (stAt p i).mn + 1) (by omega)
  unfold durAt; omega
theorem mvAt_bd {p : Plan} (h : Fine p) (Y : List (List Int)) (i : Nat) : p.mmin ≤ mvAt p Y i ∧ mvAt p Y i ≤ p.mmax := by
  have h1 := h.v.mmin
  have := pickZ_bd (c := gI (twoAt Y i) 1) (n := p.mmax - p.mmin + 1) (by omega)
  unfold mvAt; omega
theorem chDet_bd {p : Plan} (h : Fine p) (Y : List (List Int)) : p.mmin ≤ chDet p Y ∧ chDet p Y ≤ p.mmax := by
  have h1 := h.v.mmin
  have := pickZ_bd (c := (gI (Y.getD 0 []) 0).tdiv 7) (n := p.mmax - p.mmin + 1) (by omega)
  unfold chDet; split <;> omega
theorem chosen_poss {p : Plan} (h : Fine p) (Y : List (List Int)) (tool at_ : Int) : Poss p (chosen p Y tool at_) := by
  have hl := h.v.len
  refine ⟨h.v, dursTo_len _ _ _, fun i hi => ?_, mvsTo_len _ _ _, fun i hi => ?_, chDet_bd h Y, ?_⟩
  · have := durAt_bd h Y hi
    show _ ≤ (dursTo p Y _).getD i 0 ∧ (dursTo p Y _).getD i 0 ≤ _
    rw [dursTo_at _ _ _ _ hi]
    have e : stAt p i = p.st[i] := by unfold stAt; rw [List.getD_eq_getElem?_getD, List.getElem?_eq_getElem hi]; rfl
    rw [e] at this; exact this
  · have := mvAt_bd h Y i
    show _ ≤ (mvsTo p Y _).getD i 0 ∧ (mvsTo p Y _).getD i 0 ≤ _
    rw [mvsTo_at _ _ _ _ hi]; exact this
  · show (chTool p tool = -1 ∧ chAt p tool at_ = 0) ∨ ((0 ≤ chTool p tool ∧ chTool p tool ≤ 59) ∧ 0 ≤ chAt p tool at_ ∧ chAt p tool at_ ≤ 1000000)
    unfold chTool chAt
    by_cases ht : pickZ tool 4 > 0
    · right
      rw [if_pos ht, if_pos ht]
      have h1 := h.at (chI_lt h tool)
      have h2 := h.at (show p.st.length - 1 < p.st.length by omega)
      have h3 := h1.mt; have h4 := h1.ms; have h5 := h2.ss
      have q1 := pickZ_bd (c := at_.tdiv 3) (n := 50) (by omega)
      have q2 := pickZ_bd (c := at_) (n := (stAt p (p.st.length - 1)).s.start + 50) (by omega)
      refine ⟨by omega, ?_⟩
      split <;> omega
    · left
      rw [if_neg ht, if_neg ht]; exact ⟨rfl, rfl⟩
theorem chosen_zero (p : Plan) (Y : List (List Int)) : (chosen p Y 0 0).tool = -1 ∧ (chosen p Y 0 0).at_ = 0 := by
  have : ¬ pickZ 0 4 > 0 := by decide
  constructor
  · show chTool p 0 = -1; unfold chTool; rw [if_neg this]
  · show chAt p 0 0 = 0; unfold chAt; rw [if_neg this]
end Go.Proofs.Ytjdhjlhcdpekbaa.Pe.Pl

namespace Go.Proofs.Ytjdhjlhcdpekbaa.Pe
open Go.RowKit

theorem ArrsA.two {w : World} {a : Option Addr} {c : Nat} {X : List (List Int)} (h : ArrsA 2 w a c X) {i : Nat} (hi : i < X.length) : ∃ b off : Nat, a = some ⟨b, off, none⟩ ∧ b < w.heap.size ∧
    (w.cell? ⟨b, off + i * 2, none⟩ = some (.int .i64 (Pl.gI (X.getD i []) 0)) ∧ w.cell? ⟨b, off + i * 2 + 1, none⟩ = some (.int .i64 (Pl.gI (X.getD i []) 1))) ∧ Fits (Pl.gI (X.getD i []) 0) ∧ Fits (Pl.gI (X.getD i []) 1) := by
  obtain ⟨b, off, rfl, hb, hc⟩ := h.2.2.2 i hi
  obtain ⟨hl, hf⟩ := h.2.2.1 X[i] (List.getElem_mem hi)
  have e : X.getD i [] = X[i] := by rw [List.getD_eq_getElem?_getD, List.getElem?_eq_getElem hi]; rfl
  rw [e]
  generalize X[i] = y at *
  obtain ⟨y0, y1, rfl⟩ := two_list hl
  exact ⟨b, off, rfl, hb, ⟨hc 0 _ rfl, hc 1 _ rfl⟩, hf _ (by simp [Pl.gI]), hf _ (by simp [Pl.gI])⟩
/-- A mark for the walk: the operation at hand is an append. -/
theorem app_guard {P : Program} {ops : Array Oper} {a : Act} {w : World} {K : Act → World → Prop} {Q : Exit → Act → World → Prop} {E : Prop} {T : Array Value} {dst : Option Tmp} {s x : Operand} {t ty : TypeId} {pos : String} {after : Array Edge} {g : Option (Nat × Bool)}
    (h : if Region.wanted { dst := dst, op := Op.call { callee := Callee.builtin Builtin.append, args := #[s, x], argTypes := #[t, t] }, type := ty, pos := pos, after := after, guard := g } (yielded ops T) = true then Oper.wp P { dst := dst, op := Op.call { callee := Callee.builtin Builtin.append, args := #[s, x], argTypes := #[t, t] }, type := ty, pos := pos, after := after, guard := g } a w K Q else E) :
    if Region.wanted { dst := dst, op := Op.call { callee := Callee.builtin Builtin.append, args := #[s, x], argTypes := #[t, t] }, type := ty, pos := pos, after := after, guard := g } (yielded ops T) = true then Oper.wp P { dst := dst, op := Op.call { callee := Callee.builtin Builtin.append, args := #[s, x], argTypes := #[t, t] }, type := ty, pos := pos, after := after, guard := g } a w K Q else E := h
abbrev zeroScen : Obj := .cells #[.slice none 0 0, .slice none 0 0, .int .i64 0, .int .i64 0, .int .i64 0] 67
theorem info_int1 : (Try.prog.info? 3).map (fun i => (i.zero, i.size, i.bytes)) = some (some (.int .i64 0), 1, 8) := by kernel_rfl
/-- A scenario that is built beside its plan. -/
structure ChM (w0 : World) (q : PlanP) (r : ScenP) (w : World) : Prop where
  pb : w.heap[w0.heap.size]? = some (planObj q)
  rb : w.heap[w0.heap.size + 1]? = some zeroScen
  sb : w.heap[w0.heap.size + 1 + 1]? = some (scenObj r)
  drow : IntsO w w0.heap.size (.slice r.da r.s.dur.length r.dc) r.s.dur
  mrow : IntsO w w0.heap.size (.slice r.ma r.s.mv.length r.mc) r.s.mv
  apart : ∀ b, (Value.slice r.da r.s.dur.length r.dc).ownBlock = some b → (Value.slice r.ma r.s.mv.length r.mc).ownBlock ≠ some b
  bel : Below w0.heap.size w0 w
theorem ChM.below {w0 w w' : World} {q : PlanP} {r : ScenP} (h : ChM w0 q r w) (hb : Below w.heap.size w w') : ChM w0 q r w' :=
  ⟨box_below h.pb hb, box_below h.rb hb, box_below h.sb hb, h.drow.below hb, h.mrow.below hb, h.apart, below_step h.bel hb⟩
theorem ChM.size {w0 w : World} {q : PlanP} {r : ScenP} (h : ChM w0 q r w) : w0.heap.size + 1 + 1 < w.heap.size := lt_of_block h.sb
theorem ChM.ne {w0 w : World} {q : PlanP} {r : ScenP} (h : ChM w0 q r w) {j : Nat} {ds : Array Value} {u : TypeId} (hj : w.heap[j]? = some (.cells ds u)) (hu : u ≠ 3) : (∀ b, (Value.slice r.da r.s.dur.length r.dc).ownBlock = some b → b ≠ j) ∧ (∀ b, (Value.slice r.ma r.s.mv.length r.mc).ownBlock = some b → b ≠ j) := by
  refine ⟨fun b hb => ?_, fun b hb => ?_⟩
  · obtain ⟨cs, hcs⟩ := own_block h.drow hb
    exact ne_of_kind hcs hj (fun e => hu e.symm)
  · obtain ⟨cs, hcs⟩ := own_block h.mrow hb
    exact ne_of_kind hcs hj (fun e => hu e.symm)
/-- A box of another kind is written. -/
theorem ChM.other {w0 w : World} {q : PlanP} {r : ScenP} (h : ChM w0 q r w) {S : Nat} {cs : Array Value} {t : TypeId} (hS : w.heap[S]? = some (.cells cs t)) (ht : t ≠ 3) (hi : w0.heap.size + 1 + 1 < S) (o : Nat) (u : Value) : ChM w0 q r (w.setCell ⟨S, o, none⟩ u) := by
  have hc : Ch (fun k => k = S) w (w.setCell ⟨S, o, none⟩ u) := Ch.grown (grown_set (w := w) S o u) (fun k hk => by injection hk with hk; exact hk.symm)
  have hn := h.ne hS ht
  exact ⟨(hc.block _ (lt_of_block h.pb) (by omega)).trans h.pb, (hc.block _ (lt_of_block h.rb) (by omega)).trans h.rb, (hc.block _ (lt_of_block h.sb) (by omega)).trans h.sb, own_ch h.drow hc (fun k hk => hn.1 k hk), own_ch h.mrow hc (fun k hk => hn.2 k hk), h.apart, h.bel.setCell (p := ⟨S, o, none⟩) (by show w0.heap.size ≤ S; omega) u⟩
/-- A number of the scenario is written. -/
theorem ChM.num {w0 w : World} {q : PlanP} {du mv : List Int} {de tl at_ : Int} {da ma : Option Addr} {dc mc : Nat} (h : ChM w0 q ⟨⟨du, mv, de, tl, at_⟩, da, dc, ma, mc⟩ w) {de' tl' at' : Int} {o : Nat} {u : Int}
    (hu : (#[.slice da du.length dc, .slice ma mv.length mc, .int .i64 de, .int .i64 tl, .int .i64 at_] : Array Value).setIfInBounds o (.int .i64 u) = #[.slice da du.length dc, .slice ma mv.length mc, .int .i64 de', .int .i64 tl', .int .i64 at']) :
    ChM w0 q ⟨⟨du, mv, de', tl', at'⟩, da, dc, ma, mc⟩ (w.setCell ⟨w0.heap.size + 1 + 1, o, none⟩ (.int .i64 u)) := by
  have hc : Ch (fun k => k = w0.heap.size + 1 + 1) w (w.setCell ⟨w0.heap.size + 1 + 1, o, none⟩ (.int .i64 u)) := Ch.grown (grown_set (w := w) _ o _) (fun k hk => by injection hk with hk; exact hk.symm)
  have hn := h.ne h.sb (by decide)
  refine ⟨(hc.block _ (lt_of_block h.pb) (by omega)).trans h.pb, (hc.block _ (lt_of_block h.rb) (by omega)).trans h.rb, ?_, own_ch h.drow hc (fun k hk => hn.1 k hk), own_ch h.mrow hc (fun k hk => hn.2 k hk), h.apart, h.bel.setCell (p := ⟨w0.heap.size + 1 + 1, o, none⟩) (by show w0.heap.size ≤ w0.heap.size + 1 + 1; omega) _⟩
  rw [block_set h.sb, hu]
theorem ChM.dur {w0 w wA w3 : World} {q : PlanP} {du mv : List Int} {de tl at_ : Int} {da ma : Option Addr} {dc mc : Nat} (h : ChM w0 q ⟨⟨du, mv, de, tl, at_⟩, da, dc, ma, mc⟩ w) (x : Int) {a' : Option Addr} {c' : Nat} (hA : Below w.heap.size w wA)
    (hown : w3.ownsRow w0.heap.size 3 1 (.slice a' (du.length + 1) c') (du.length + 1) (du.flatMap intCells ++ intCells x)) (hg : wA.grownBy w3 (Value.slice da du.length dc).ownBlock)
    (hnew : ∀ k, (Value.slice a' (du.length + 1) c').ownBlock = some k → (Value.slice da du.length dc).ownBlock = some k ∨ wA.heap.size ≤ k) :
    ChM w0 q ⟨⟨du ++ [x], mv, de, tl, at_⟩, a', c', ma, mc⟩ (w3.setCell ⟨w0.heap.size + 1 + 1, 0, none⟩ (.slice a' (du.length + 1) c')) ∧ w3.heap[w0.heap.size + 1 + 1]? = some (scenObj ⟨⟨du, mv, de, tl, at_⟩, da, dc, ma, mc⟩) := by
  have hA' := h.below hA
  have far : ∀ {b : Nat} {cs : Array Value} {t : TypeId}, wA.heap[b]? = some (.cells cs t) → t ≠ 3 → w3.heap[b]? = some (.cells cs t) := fun {b cs t} hb ht => (hg.block _ (lt_of_block hb) (fun e => (hA'.ne hb ht).1 b e.symm rfl)).trans hb
  have hs3 := far hA'.sb (by decide)
  have hr : IntsO w3 w0.heap.size (.slice a' (du ++ [x]).length c') (du ++ [x]) := by rw [List.length_append]; exact RowO.snoc hown
  have hm3 : IntsO w3 w0.heap.size (.slice ma mv.length mc) mv := own_ch hA'.mrow (Ch.grown hg (S := fun k => (Value.slice da du.length dc).ownBlock = some k) (fun k hk => hk)) (fun k hk e => h.apart k e hk)
  have hc : Ch (fun k => k = w0.heap.size + 1 + 1) w3 (w3.setCell ⟨w0.heap.size + 1 + 1, 0, none⟩ (.slice a' (du.length + 1) c')) := Ch.grown (grown_set (w := w3) _ 0 _) (fun k hk => by injection hk with hk; exact hk.symm)
  have hp3 := far hA'.pb (by decide); have hz3 := far hA'.rb (by decide)
  refine ⟨⟨(hc.block _ (lt_of_block hp3) (by omega)).trans hp3, (hc.block _ (lt_of_block hz3) (by omega)).trans hz3, ?_, own_ch hr hc (fun k hk e => ?_), own_ch hm3 hc (fun k hk e => ?_), fun b hb hb2 => ?_, ?_⟩, hs3⟩
  · rw [block_set hs3]; simp
  · obtain ⟨cs, hcs⟩ := own_block hr hk
    exact ne_of_kind hcs hs3 (by decide) e
  · obtain ⟨cs, hcs⟩ := own_block hm3 hk
    exact ne_of_kind hcs hs3 (by decide) e
  · have hl := (hA'.mrow.lt b hb2).2
    rw [List.length_append] at hb
    rcases hnew b hb with h1 | h1
    · exact h.apart b h1 hb2
    · omega
  · exact (hA'.bel.grown hg hA'.bel.size (fun b hb => (hA'.drow.lt b hb).1)).setCell (p := ⟨w0.heap.size + 1 + 1, 0, none⟩) (by show w0.heap.size ≤ w0.heap.size + 1 + 1; omega) _
theorem ChM.mv {w0 w wA w3 : World} {q : PlanP} {du mv : List Int} {de tl at_ : Int} {da ma : Option Addr} {dc mc : Nat} (h : ChM w0 q ⟨⟨du, mv, de, tl, at_⟩, da, dc, ma, mc⟩ w) (x : Int) {a' : Option Addr} {c' : Nat} (hA : Below w.heap.size w wA)
    (hown : w3.ownsRow w0.heap.size 3 1 (.slice a' (mv.length + 1) c') (mv.length + 1) (mv.flatMap intCells ++ intCells x)) (hg : wA.grownBy w3 (Value.slice ma mv.length mc).ownBlock)
    (hnew : ∀ k, (Value.slice a' (mv.length + 1) c').ownBlock = some k → (Value.slice ma mv.length mc).ownBlock = some k ∨ wA.heap.size ≤ k) :
    ChM w0 q ⟨⟨du, mv ++ [x], de, tl, at_⟩, da, dc, a', c'⟩ (w3.setCell ⟨w0.heap.size + 1 + 1, 1, none⟩ (.slice a' (mv.length + 1) c')) ∧ w3.heap[w0.heap.size + 1 + 1]? = some (scenObj ⟨⟨du, mv, de, tl, at_⟩, da, dc, ma, mc⟩) := by
  have hA' := h.below hA
  have far : ∀ {b : Nat} {cs : Array Value} {t : TypeId}, wA.heap[b]? = some (.cells cs t) → t ≠ 3 → w3.heap[b]? = some (.cells cs t) := fun {b cs t} hb ht => (hg.block _ (lt_of_block hb) (fun e => (hA'.ne hb ht).2 b e.symm rfl)).trans hb
  have hs3 := far hA'.sb (by decide)
  have hr : IntsO w3 w0.heap.size (.slice a' (mv ++ [x]).length c') (mv ++ [x]) := by rw [List.length_append]; exact RowO.snoc hown
  have hd3 : IntsO w3 w0.heap.size (.slice da du.length dc) du := own_ch hA'.drow (Ch.grown hg (S := fun k => (Value.slice ma mv.length mc).ownBlock = some k) (fun k hk => hk)) (fun k hk e => h.apart k hk e)
  have hc : Ch (fun k => k = w0.heap.size + 1 + 1) w3 (w3.setCell ⟨w0.heap.size + 1 + 1, 1, none⟩ (.slice a' (mv.length + 1) c')) := Ch.grown (grown_set (w := w3) _ 1 _) (fun k hk => by injection hk with hk; exact hk.symm)
  have hp3 := far hA'.pb (by decide); have hz3 := far hA'.rb (by decide)
  refine ⟨⟨(hc.block _ (lt_of_block hp3) (by omega)).trans hp3, (hc.block _ (lt_of_block hz3) (by omega)).trans hz3, ?_, own_ch hd3 hc (fun k hk e => ?_), own_ch hr hc (fun k hk e => ?_), fun b hb hb2 => ?_, ?_⟩, hs3⟩
  · rw [block_set hs3]; simp
  · obtain ⟨cs, hcs⟩ := own_block hd3 hk
    exact ne_of_kind hcs hs3 (by decide) e
  · obtain ⟨cs, hcs⟩ := own_block hr hk
    exact ne_of_kind hcs hs3 (by decide) e
  · have hl := (hA'.drow.lt b hb).2
    rw [List.length_append] at hb2
    rcases hnew b hb2 with h1 | h1
    · exact h.apart b hb h1
    · omega
  · exact (hA'.bel.grown hg hA'.bel.size (fun b hb => (hA'.mrow.lt b hb).1)).setCell (p := ⟨w0.heap.size + 1 + 1, 1, none⟩) (by show w0.heap.size ≤ w0.heap.size + 1 + 1; omega) _
end Go.Proofs.Ytjdhjlhcdpekbaa.Pe
