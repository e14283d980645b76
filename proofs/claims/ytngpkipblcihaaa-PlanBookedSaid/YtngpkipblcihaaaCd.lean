/-
  The reference's scenario on paper.
-/
import Derived.Test.YtngpkipblcihaaaMd
namespace Go.Proofs.Ytngpkipblcihaaa.Pl

def twoAt (Y : List (List Int)) (i : Nat) : List Int := if i < Y.length then Y.getD i [] else [0, 0]
abbrev stAt (p : Plan) (i : Nat) : Stage := p.st.getD i stage0
def durAt (p : Plan) (Y : List (List Int)) (i : Nat) : Int := (stAt p i).mn + pickZ (gI (twoAt Y i) 0) ((stAt p i).mx - (stAt p i).mn + 1)
def mvAt (p : Plan) (Y : List (List Int)) (i : Nat) : Int := p.mmin + pickZ (gI (twoAt Y i) 1) (p.mmax - p.mmin + 1)
def chDet (p : Plan) (Y : List (List Int)) : Int := if 0 < Y.length then p.mmin + pickZ ((gI (Y.getD 0 []) 0).tdiv 7) (p.mmax - p.mmin + 1) else p.mmin
def chI (p : Plan) (tool : Int) : Nat := (pickZ (tool.tdiv 4) p.st.length).toNat
def chTool (p : Plan) (tool : Int) : Int := if pickZ tool 4 > 0 then (stAt p (chI p tool)).m.tool else -1
def chAt (p : Plan) (tool at_ : Int) : Int :=
  if pickZ tool 4 > 0 then (if pickZ at_ 3 > 0 then max 0 ((stAt p (chI p tool)).m.start - 20 + pickZ (at_.tdiv 3) 50) else pickZ at_ ((stAt p (p.st.length - 1)).s.start + 50)) else 0
def dursTo (p : Plan) (Y : List (List Int)) (k : Nat) : List Int := (List.range k).map (durAt p Y)
def mvsTo (p : Plan) (Y : List (List Int)) (k : Nat) : List Int := (List.range k).map (mvAt p Y)
def chosen (p : Plan) (Y : List (List Int)) (tool at_ : Int) : Scen := ⟨dursTo p Y p.st.length, mvsTo p Y p.st.length, chDet p Y, chTool p tool, chAt p tool at_⟩
theorem dursTo_succ (p : Plan) (Y : List (List Int)) (k : Nat) : dursTo p Y (k + 1) = dursTo p Y k ++ [durAt p Y k] := by simp [dursTo, List.range_succ]
theorem mvsTo_succ (p : Plan) (Y : List (List Int)) (k : Nat) : mvsTo p Y (k + 1) = mvsTo p Y k ++ [mvAt p Y k] := by simp [mvsTo, List.range_succ]
theorem dursTo_len (p : Plan) (Y : List (List Int)) (k : Nat) : (dursTo p Y k).length = k := by simp [dursTo]
theorem mvsTo_len (p : Plan) (Y : List (List Int)) (k : Nat) : (mvsTo p Y k).length = k := by simp [mvsTo]
theorem dursTo_at (p : Plan) (Y : List (List Int)) (n k : Nat) (h : k < n) : (dursTo p Y n).getD k 0 = durAt p Y k := by
  unfold dursTo; rw [List.getD_eq_getElem?_getD]; simp [h]
theorem mvsTo_at (p : Plan) (Y : List (List Int)) (n k : Nat) (h : k < n) : (mvsTo p Y n).getD k 0 = mvAt p Y k := by
  unfold mvsTo; rw [List.getD_eq_getElem?_getD]; simp [h]
/-- What the generator needs of a plan. -/
structure Fine (p : Plan) : Prop where
  v : Valid p
  s : ∀ x ∈ p.st, Small 1000 x
  n : p.st.length ≤ 5
  m : p.mmax ≤ 11
theorem Fine.at {p : Plan} (h : Fine p) {i : Nat} (hi : i < p.st.length) : Small 1000 (stAt p i) := getD_small h.s hi
theorem made_fine (X : List (List Int)) : Fine (made X) := ⟨made_valid X, made_stages X, by rw [made_len]; exact (mkN_bd X).2, (mkMax_bd X).2.2.1⟩
theorem chI_lt {p : Plan} (h : Fine p) (tool : Int) : chI p tool < p.st.length := by
  have hl := h.v.len
  have := pickZ_bd (c := tool.tdiv 4) (n := p.st.length) (by omega)
  unfold chI; omega
theorem durAt_bd {p : Plan} (h : Fine p) (Y : List (List Int)) {i : Nat} (hi : i < p.st.length) : (stAt p i).mn ≤ durAt p Y i ∧ durAt p Y i ≤ (stAt p i).mx := by
  have h1 := (h.at hi).mn
  have := pickZ_bd (c := gI (twoAt Y i) 0) (n := (stAt p i).mx - (stAt p i).mn + 1) (by omega)
  unfold durAt; omega
theorem mvAt_bd {p : Plan} (h : Fine p) (Y : List (List Int)) (i : Nat) : p.mmin ≤ mvAt p Y i ∧ mvAt p Y i ≤ p.mmax := by
  have h1 := h.v.mmin
  have := pickZ_bd (c := gI (twoAt Y i) 1) (n := p.mmax - p.mmin + 1) (by omega)
  unfold mvAt; omega
theorem chDet_bd {p : Plan} (h : Fine p) (Y : List (List Int)) : p.mmin ≤ chDet p Y ∧ chDet p Y ≤ p.mmax := by
  have h1 := h.v.mmin
  have := pickZ_bd (c := (gI (Y.getD 0 []) 0).tdiv 7) (n := p.mmax - p.mmin + 1) (by omega)
  unfold chDet; split <;> omega
theorem chosen_poss {p : Plan} (h : Fine p) (Y : List (List Int)) (tool at_ : Int) : Poss p (chosen p Y tool at_) := by
  have hl := h.v.len
  refine ⟨h.v, dursTo_len _ _ _, fun i hi => ?_, mvsTo_len _ _ _, fun i hi => ?_, chDet_bd h Y, ?_⟩
  · have := durAt_bd h Y hi
    show _ ≤ (dursTo p Y _).getD i 0 ∧ (dursTo p Y _).getD i 0 ≤ _
    rw [dursTo_at _ _ _ _ hi]
    have e : stAt p i = p.st[i] := by unfold stAt; rw [List.getD_eq_getElem?_getD, List.getElem?_eq_getElem hi]; rfl
    rw [e] at this; exact this
  · have := mvAt_bd h Y i
    show _ ≤ (mvsTo p Y _).getD i 0 ∧ (mvsTo p Y _).getD i 0 ≤ _
    rw [mvsTo_at _ _ _ _ hi]; exact this
  · show (chTool p tool = -1 ∧ chAt p tool at_ = 0) ∨ ((0 ≤ chTool p tool ∧ chTool p tool ≤ 59) ∧ 0 ≤ chAt p tool at_ ∧ chAt p tool at_ ≤ 1000000)
    unfold chTool chAt
    by_cases ht : pickZ tool 4 > 0
    · right
      rw [if_pos ht, if_pos ht]
      have h1 := h.at (chI_lt h tool)
      have h2 := h.at (show p.st.length - 1 < p.st.length by omega)
      have h3 := h1.mt; have h4 := h1.ms; have h5 := h2.ss
      have q1 := pickZ_bd (c := at_.tdiv 3) (n := 50) (by omega)
      have q2 := pickZ_bd (c := at_) (n := (stAt p (p.st.length - 1)).s.start + 50) (by omega)
      refine ⟨by omega, ?_⟩
      split <;> omega
    · left
      rw [if_neg ht, if_neg ht]; exact ⟨rfl, rfl⟩
theorem chosen_zero (p : Plan) (Y : List (List Int)) : (chosen p Y 0 0).tool = -1 ∧ (chosen p Y 0 0).at_ = 0 := by
  have : ¬ pickZ 0 4 > 0 := by decide
  constructor
  · show chTool p 0 = -1; unfold chTool; rw [if_neg this]
  · show chAt p 0 0 = 0; unfold chAt; rw [if_neg this]
end Go.Proofs.Ytngpkipblcihaaa.Pl
