/-
  The reference's generators on paper: pick, the plan and the scenario that integers determine.
-/
import Derived.Test.YtngpkipblcihaaaPlB
import Derived.Test.YtngpkipblcihaaaSmall
namespace Go.Proofs.Ytngpkipblcihaaa

namespace Pl
abbrev gI (y : List Int) (j : Nat) : Int := y.getD j 0
def mainStart (mmax t late : Int) (y : List Int) : Int := if pickZ ((gI y 2).tdiv 12) 4 > 0 then late + mmax + pickZ ((gI y 2).tdiv 48) 3 else t + mmax + pickZ (gI y 2) 12
def spareStart (mmax ms mx : Int) (y : List Int) : Int := if pickZ ((gI y 3).tdiv 45) 5 = 0 then ms + pickZ ((gI y 3).tdiv 225) 6 else ms + mx + pickZ (gI y 3) 3 * mmax + pickZ ((gI y 3).tdiv 3) 15
def stMn (y : List Int) : Int := 1 + pickZ (gI y 0) 20
def stMx (y : List Int) : Int := stMn y + pickZ ((gI y 0).tdiv 20) 12
def stMt (y : List Int) : Int := pickZ (gI y 1) 6
def stSt (y : List Int) : Int := (stMt y + 1 + pickZ ((gI y 1).tdiv 6) 5) % 6
def stageOf (mmax t late : Int) (y : List Int) : Stage :=
  ⟨stMn y, stMx y, ⟨stMt y, mainStart mmax t late y⟩, ⟨stSt y, spareStart mmax (mainStart mmax t late y) (stMx y) y⟩⟩
def stageAt (mmax t late : Int) (X : List (List Int)) (i : Nat) : Stage :=
  if i < X.length then stageOf mmax t late (X.getD i []) else ⟨10, 10, ⟨i, t + 10⟩, ⟨(i : Int) + 1, t + 40⟩⟩
structure Acc where
  l : List Stage
  t : Int
  late : Int
def stagesTo (X : List (List Int)) (mmax entry : Int) : Nat → Acc
  | 0 => ⟨[], entry, entry⟩
  | k + 1 =>
    ⟨(stagesTo X mmax entry k).l ++ [stageAt mmax (stagesTo X mmax entry k).t (stagesTo X mmax entry k).late X k],
      (stageAt mmax (stagesTo X mmax entry k).t (stagesTo X mmax entry k).late X k).m.start + (stageAt mmax (stagesTo X mmax entry k).t (stagesTo X mmax entry k).late X k).mx,
      max (stageAt mmax (stagesTo X mmax entry k).t (stagesTo X mmax entry k).late X k).m.start (stageAt mmax (stagesTo X mmax entry k).t (stagesTo X mmax entry k).late X k).s.start + (stageAt mmax (stagesTo X mmax entry k).t (stagesTo X mmax entry k).late X k).mx⟩
def mkN (X : List (List Int)) : Nat := max 1 (min X.length 5)
def mkEntry (X : List (List Int)) : Int := if 0 < X.length then pickZ (gI (X.getD 0 []) 5) 50 else 100
def mkMin (X : List (List Int)) : Int := if 0 < X.length then pickZ (gI (X.getD 0 []) 4) 5 else 2
def mkMax (X : List (List Int)) : Int := if 0 < X.length then pickZ (gI (X.getD 0 []) 4) 5 + pickZ ((gI (X.getD 0 []) 4).tdiv 5) 8 else 6
def stage0 : Stage := ⟨0, 0, ⟨0, 0⟩, ⟨0, 0⟩⟩
/-- How tight the window from i to k is. -/
def winN (X : List (List Int)) (i k : Nat) : Int := if k < X.length then pickZ (gI (X.getD i []) 4 / 2 ^ k) 3 else 0
def winLim (st : List Stage) (X : List (List Int)) (i k : Nat) : Int :=
  if winN X i k > 1 then max (st.getD k stage0).s.start (st.getD k stage0).m.start - (st.getD i stage0).m.start - (st.getD i stage0).mn + pickZ (gI (X.getD k []) 5) 3 - 1 else pickZ (gI (X.getD k []) 5) 150
def winAt (st : List Stage) (X : List (List Int)) (i k : Nat) : List Win := if winN X i k > 0 then [⟨i, k, max 0 (winLim st X i k)⟩] else []
/-- The windows from stage i to the m stages behind it. -/
def winRow (st : List Stage) (X : List (List Int)) (i : Nat) : Nat → List Win
  | 0 => []
  | m + 1 => winRow st X i m ++ winAt st X i (i + 1 + m)
def winTo (st : List Stage) (X : List (List Int)) : Nat → List Win
  | 0 => []
  | i + 1 => winTo st X i ++ winRow st X i (st.length - (i + 1))
def made (X : List (List Int)) : Plan :=
  ⟨mkEntry X, mkMin X, mkMax X, (stagesTo X (mkMax X) (mkEntry X) (mkN X)).l, winTo (stagesTo X (mkMax X) (mkEntry X) (mkN X)).l X (mkN X)⟩

theorem stagesTo_len (X : List (List Int)) (a b : Int) : ∀ k, (stagesTo X a b k).l.length = k
  | 0 => rfl
  | k + 1 => by simp [stagesTo, stagesTo_len X a b k]
theorem mkMax_bd (X : List (List Int)) : 0 ≤ mkMin X ∧ mkMin X ≤ mkMax X ∧ mkMax X ≤ 11 ∧ 0 ≤ mkEntry X ∧ mkEntry X ≤ 100 := by
  unfold mkMin mkMax mkEntry
  have h1 := pickZ_bd (c := gI (X.getD 0 []) 4) (n := 5) (by omega)
  have h2 := pickZ_bd (c := (gI (X.getD 0 []) 4).tdiv 5) (n := 8) (by omega)
  have h3 := pickZ_bd (c := gI (X.getD 0 []) 5) (n := 50) (by omega)
  split
  · omega
  · omega
/-- Bounds of a stage that is made. -/
structure Small (b : Int) (x : Stage) : Prop where
  mn : 1 ≤ x.mn ∧ x.mn ≤ x.mx ∧ x.mx ≤ 31
  ne : x.m.tool ≠ x.s.tool
  mt : 0 ≤ x.m.tool ∧ x.m.tool ≤ 5
  st : 0 ≤ x.s.tool ∧ x.s.tool ≤ 5
  ms : 0 ≤ x.m.start ∧ x.m.start ≤ b
  ss : 0 ≤ x.s.start ∧ x.s.start ≤ b
theorem stage_small {a t late : Int} {X : List (List Int)} {i : Nat} (ha : 0 ≤ a ∧ a ≤ 11) (ht : 0 ≤ t) (hl : t ≤ late ∨ i = 0 ∧ t = late) (hi : i < X.length ∨ i = 0) {b : Int} (hb : late ≤ b) : Small (b + 100) (stageAt a t late X i) := by
  unfold stageAt
  split
  · generalize X.getD i [] = y
    unfold stageOf
    have hmul : 0 ≤ pickZ (gI y 3) 3 * a ∧ pickZ (gI y 3) 3 * a ≤ 22 := by
      have h := pickZ_bd (c := gI y 3) (n := 3) (by omega)
      refine ⟨Int.mul_nonneg h.1 ha.1, ?_⟩
      have := Int.mul_le_mul (show pickZ (gI y 3) 3 ≤ 2 by omega) ha.2 ha.1 (by omega)
      omega
    have h1 := pickZ_bd (c := gI y 0) (n := 20) (by omega)
    have h2 := pickZ_bd (c := (gI y 0).tdiv 20) (n := 12) (by omega)
    have h3 := pickZ_bd (c := gI y 1) (n := 6) (by omega)
    have h4 := pickZ_bd (c := (gI y 1).tdiv 6) (n := 5) (by omega)
    have h5 := pickZ_bd (c := gI y 2) (n := 12) (by omega)
    have h6 := pickZ_bd (c := (gI y 2).tdiv 48) (n := 3) (by omega)
    have h7 := pickZ_bd (c := (gI y 3).tdiv 3) (n := 15) (by omega)
    have h8 := pickZ_bd (c := (gI y 3).tdiv 225) (n := 6) (by omega)
    have hst : stSt y = (stMt y + 1 + pickZ ((gI y 1).tdiv 6) 5) % 6 := rfl
    have hms : 0 ≤ mainStart a t late y ∧ mainStart a t late y ≤ b + 25 := by unfold mainStart; split <;> omega
    have hss : 0 ≤ spareStart a (mainStart a t late y) (stMx y) y ∧ spareStart a (mainStart a t late y) (stMx y) y ≤ b + 100 := by
      unfold spareStart stMx stMn; split <;> omega
    have hmt : stMt y = pickZ (gI y 1) 6 := rfl
    exact ⟨by simp only [stMx, stMn]; omega, by simp only; omega, by simp only; omega, by simp only; omega, by simp only; omega, hss⟩
  · have : i = 0 := by omega
    subst this
    exact ⟨by simp, by simp, by simp, by simp, by simp only; omega, by simp only; omega⟩
theorem stages_small {X : List (List Int)} {a e : Int} (ha : 0 ≤ a ∧ a ≤ 11) (he : 0 ≤ e ∧ e ≤ 100) : ∀ k, k ≤ mkN X → (∀ x ∈ (stagesTo X a e k).l, Small (100 + 131 * k + 100) x) ∧ 0 ≤ (stagesTo X a e k).t ∧ (stagesTo X a e k).t ≤ (stagesTo X a e k).late ∧ (stagesTo X a e k).late ≤ 100 + 131 * k
  | 0, _ => ⟨(fun x hx => by cases hx), by simp only [stagesTo]; omega, by simp only [stagesTo]; omega, by simp only [stagesTo]; omega⟩
  | k + 1, hk => by
    obtain ⟨h1, h2, h3, h4⟩ := stages_small (X := X) ha he k (by omega)
    have hs := stage_small (X := X) (i := k) ha h2 (.inl h3) (by unfold mkN at hk; omega) h4
    refine ⟨fun x hx => ?_, ?_, ?_, ?_⟩
    · rcases List.mem_append.1 hx with hx | hx
      · have h := h1 x hx
        exact ⟨h.mn, h.ne, h.mt, h.st, by have := h.ms; omega, by have := h.ss; omega⟩
      · simp at hx; subst hx
        exact ⟨hs.mn, hs.ne, hs.mt, hs.st, by have := hs.ms; omega, by have := hs.ss; omega⟩
    · show 0 ≤ _ + _
      have := hs.ms; have := hs.mn; omega
    · show _ + _ ≤ max _ _ + _
      omega
    · show max _ _ + _ ≤ _
      have := hs.ms; have := hs.ss; have := hs.mn; omega
theorem made_stages (X : List (List Int)) : ∀ x ∈ (made X).st, Small 1000 x := fun x hx => by
  have hb := mkMax_bd X
  have h := (stages_small (X := X) (a := mkMax X) (e := mkEntry X) ⟨by omega, hb.2.2.1⟩ ⟨hb.2.2.2.1, hb.2.2.2.2⟩ (mkN X) (Nat.le_refl _)).1 x hx
  have hn : mkN X ≤ 5 := by unfold mkN; omega
  exact ⟨h.mn, h.ne, h.mt, h.st, by have := h.ms; omega, by have := h.ss; omega⟩
theorem made_len (X : List (List Int)) : (made X).st.length = mkN X := stagesTo_len _ _ _ _
theorem mkN_bd (X : List (List Int)) : 1 ≤ mkN X ∧ mkN X ≤ 5 := by unfold mkN; omega
/-! windows -/
theorem getD_small {b : Int} {l : List Stage} (h : ∀ x ∈ l, Small b x) {i : Nat} (hi : i < l.length) : Small b (l.getD i stage0) := by
  rw [List.getD_eq_getElem?_getD, List.getElem?_eq_getElem hi]; exact h _ (List.getElem_mem hi)
theorem winAt_mem {st : List Stage} {X : List (List Int)} {i k : Nat} {w : Win} (h : w ∈ winAt st X i k) : w = ⟨i, k, max 0 (winLim st X i k)⟩ := by
  unfold winAt at h; split at h
  · simpa using h
  · cases h
theorem winLim_bd {st : List Stage} {X : List (List Int)} {i k : Nat} (h : ∀ x ∈ st, Small 1000 x) (hi : i < st.length) (hk : k < st.length) : -2000 ≤ winLim st X i k ∧ winLim st X i k ≤ 2000 := by
  have h1 := getD_small h hi; have h2 := getD_small h hk
  have a1 := h1.ms; have a2 := h1.mn; have a3 := h2.ms; have a4 := h2.ss
  have q1 := pickZ_bd (c := gI (X.getD k []) 5) (n := 3) (by omega)
  have q2 := pickZ_bd (c := gI (X.getD k []) 5) (n := 150) (by omega)
  unfold winLim
  split <;> omega
theorem winRow_mem {st : List Stage} {X : List (List Int)} {i : Nat} {w : Win} : ∀ {m : Nat}, w ∈ winRow st X i m → ∃ k, i < k ∧ k < i + 1 + m ∧ w = ⟨i, k, max 0 (winLim st X i k)⟩
  | 0, h => by cases h
  | m + 1, h => by
    rcases List.mem_append.1 h with h | h
    · obtain ⟨k, h1, h2, h3⟩ := winRow_mem h
      exact ⟨k, h1, by omega, h3⟩
    · exact ⟨i + 1 + m, by omega, by omega, winAt_mem h⟩
theorem winTo_mem {st : List Stage} {X : List (List Int)} {w : Win} : ∀ {n : Nat}, n ≤ st.length → w ∈ winTo st X n → ∃ i k, i < n ∧ i < k ∧ k < st.length ∧ w = ⟨(i : Nat), (k : Nat), max 0 (winLim st X i k)⟩
  | 0, _, h => by cases h
  | n + 1, hn, h => by
    rcases List.mem_append.1 h with h | h
    · obtain ⟨i, k, h1, h2⟩ := winTo_mem (by omega) h
      exact ⟨i, k, by omega, h2⟩
    · obtain ⟨k, h1, h2, h3⟩ := winRow_mem h
      exact ⟨n, k, by omega, h1, by omega, h3⟩
theorem winAt_len (st : List Stage) (X : List (List Int)) (i k : Nat) : (winAt st X i k).length ≤ 1 := by unfold winAt; split <;> simp
theorem winRow_len (st : List Stage) (X : List (List Int)) (i : Nat) : ∀ m, (winRow st X i m).length ≤ m
  | 0 => by simp [winRow]
  | m + 1 => by
    have := winRow_len st X i m; have := winAt_len st X i (i + 1 + m)
    simp only [winRow, List.length_append]; omega
theorem winTo_len (st : List Stage) (X : List (List Int)) (h : st.length ≤ 5) : ∀ n, n ≤ 5 → (winTo st X n).length ≤ 4 * n
  | 0, _ => by simp [winTo]
  | n + 1, hn => by
    have := winTo_len st X h n (by omega); have := winRow_len st X n (st.length - (n + 1))
    simp only [winTo, List.length_append]; omega
/-- In order. -/
def Asc (l : List Win) : Prop := l.Pairwise fun a b => before a b = true
theorem okFrom_asc {n : Nat} : ∀ {l : List Win} {v : Option Win}, Asc l → (∀ w ∈ l, OkWin n w) → (∀ u, v = some u → ∀ w ∈ l, before u w = true) → okWinsFrom n v l = true
  | [], _, _, _, _ => by cases ‹Option Win› <;> rfl
  | x :: l, v, h, hw, hv => by
    have hx := okWin_iff.2 (hw x (by simp))
    have hr := okFrom_asc (v := some x) (List.pairwise_cons.1 h).2 (fun w h => hw w (List.mem_cons_of_mem _ h)) (fun u hu w h' => by injection hu with hu; subst hu; exact (List.pairwise_cons.1 h).1 w h')
    cases v with
    | none => simp [okWinsFrom, hx, hr]
    | some u => simp [okWinsFrom, hx, hr, hv u rfl x (by simp)]
theorem row_asc (st : List Stage) (X : List (List Int)) (i : Nat) : ∀ m, Asc (winRow st X i m)
  | 0 => List.Pairwise.nil
  | m + 1 => by
    refine List.pairwise_append.2 ⟨row_asc st X i m, ?_, fun a ha b hb => ?_⟩
    · unfold winAt; split
      · simp
      · exact List.Pairwise.nil
    · obtain ⟨k, h1, h2, rfl⟩ := winRow_mem ha
      have := winAt_mem hb; subst this
      simp [before]; omega
theorem winTo_asc (st : List Stage) (X : List (List Int)) : ∀ n, n ≤ st.length → Asc (winTo st X n)
  | 0, _ => List.Pairwise.nil
  | n + 1, hn => by
    refine List.pairwise_append.2 ⟨winTo_asc st X n (by omega), row_asc _ _ _ _, fun a ha b hb => ?_⟩
    obtain ⟨i, k, h1, -, -, rfl⟩ := winTo_mem (by omega) ha
    obtain ⟨k', h2, -, rfl⟩ := winRow_mem hb
    simp [before]; omega
theorem small_ok {x : Stage} (h : Small 1000 x) : OkStage x := by
  have := h.mn; have := h.mt; have := h.st; have := h.ms; have := h.ss
  exact ⟨by omega, by omega, by omega, h.ne, by omega, by omega, by omega, by omega⟩
theorem made_valid (X : List (List Int)) : Valid (made X) := by
  have hb := mkMax_bd X
  have hn := mkN_bd X
  have hl := made_len X
  have hs := made_stages X
  have hw : ∀ w ∈ (made X).wn, OkWin (made X).st.length w := fun w hw => by
    obtain ⟨i, k, h1, h2, h3, rfl⟩ := winTo_mem (n := mkN X) (st := (made X).st) (by omega) hw
    have := winLim_bd (X := X) hs (show i < (made X).st.length by omega) h3
    exact ⟨by simp, by simp only; omega, by simp only; omega, by simp only; omega⟩
  refine ⟨by show 0 ≤ mkEntry X ∧ mkEntry X ≤ _; omega, by show 0 ≤ mkMin X ∧ mkMin X ≤ mkMax X; omega, by show mkMax X ≤ _; omega, by omega, fun x hx => small_ok (hs x hx), ?_, hw, ?_⟩
  · have := winTo_len (made X).st X (by omega) (mkN X) hn.2
    exact Nat.le_trans this (by omega)
  · exact okFrom_asc (winTo_asc (made X).st X (mkN X) (by omega)) hw (fun u hu => by cases hu)
end Pl
end Go.Proofs.Ytngpkipblcihaaa
