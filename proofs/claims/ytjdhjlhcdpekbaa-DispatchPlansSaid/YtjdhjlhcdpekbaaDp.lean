/-
  Dispatching on paper: jobs, rules, which job is ahead, the order, the length, the pick, the batch.
-/
import Derived.Test.YtjdhjlhcdpekbaaChecked
import Derived.Sort.Defs
import Derived.Sort.Statements
import Derived.Shelf.SlSortCmp.Insertion
namespace Go.Proofs.Ytjdhjlhcdpekbaa.Dsp
open Go.Sort

structure Jb where
  lot : Int
  rcp : Int
  hot : Bool
  due : Int
  arr : Int
  len : Int
  cnt : Int
  deriving DecidableEq
instance : Inhabited Jb := ⟨⟨0, 0, false, 0, 0, 0, 0⟩⟩
def byR (x r : Int) (a b : Jb) : Bool :=
  if x = 1 then a.hot && !b.hot else if x = 2 then decide (a.due < b.due) else if x = 3 then decide (a.rcp = r) && !decide (b.rcp = r)
  else if x = 4 then decide (a.arr < b.arr) else if x = 5 then decide (a.len < b.len) else decide (b.cnt < a.cnt)
def ahead : List Int → Int → Jb → Jb → Bool
  | [], _, a, b => decide (a.lot < b.lot)
  | x :: l, r, a, b => if byR x r a b = true then true else if byR x r b a = true then false else ahead l r a b
def cmp : List Int → Int → Jb → Jb → Int
  | [], _, a, b => if a.lot < b.lot then -1 else if b.lot < a.lot then 1 else 0
  | x :: l, r, a, b => if byR x r a b = true then -1 else if byR x r b a = true then 1 else cmp l r a b
theorem ltOf_cmp (l : List Int) (r : Int) : Go.Proofs.ltOf (cmp l r) = ahead l r := by
  funext a b
  unfold Go.Proofs.ltOf
  induction l with
  | nil => unfold cmp ahead; split
           · rename_i h; simp [h]
           · rename_i h; split <;> simp [h]
  | cons x l ih => unfold cmp ahead; split
                   · simp
                   · split
                     · simp
                     · exact ih
theorem cmp_range (l : List Int) (r : Int) (a b : Jb) : -1 ≤ cmp l r a b ∧ cmp l r a b ≤ 1 := by
  induction l with
  | nil => unfold cmp; repeat' split
           all_goals omega
  | cons x l ih => unfold cmp; repeat' split
                   all_goals omega
theorem byR_irrefl (x r : Int) (a : Jb) : byR x r a a = false := by
  unfold byR; repeat' split
  all_goals simp
theorem byR_trans (x r : Int) (a b c : Jb) (h1 : byR x r a b = true) (h2 : byR x r b c = true) : byR x r a c = true := by
  revert h1 h2; unfold byR; repeat' split
  all_goals simp
  all_goals (intros; first | omega | simp_all)
theorem byR_ntrans (x r : Int) (a b c : Jb) (h1 : byR x r a b = false) (h2 : byR x r b c = false) : byR x r a c = false := by
  revert h1 h2; unfold byR; repeat' split
  all_goals simp
  all_goals (intros; first | omega | simp_all)
theorem byR_asymm (x r : Int) (a b : Jb) (h : byR x r a b = true) : byR x r b a = false := by
  cases h2 : byR x r b a
  · rfl
  · have := byR_trans x r a b a h h2; rw [byR_irrefl] at this; cases this
theorem swo (l : List Int) (r : Int) : SWO (ahead l r) := by
  induction l with
  | nil => exact ⟨fun x => by simp [ahead], fun x y z h1 h2 => by simp [ahead] at *; omega, fun x y z h1 h2 => by simp [ahead] at *; omega⟩
  | cons q l ih =>
    refine ⟨fun x => ?_, fun x y z => ?_, fun x y z => ?_⟩
    · unfold ahead; rw [byR_irrefl]; simp [ih.irrefl]
    · unfold ahead
      have n0 := byR_ntrans q r x y z; have n1 := byR_ntrans q r x z y; have n2 := byR_ntrans q r y x z; have n3 := byR_ntrans q r y z x; have n4 := byR_ntrans q r z x y; have n5 := byR_ntrans q r z y x; have axy := byR_asymm q r x y; have ayz := byR_asymm q r y z; have axz := byR_asymm q r x z; have i1 := ih.trans x y z
      cases hxy : byR q r x y <;> cases hyx : byR q r y x <;> cases hyz : byR q r y z <;> cases hzy : byR q r z y <;> cases hxz : byR q r x z <;> cases hzx : byR q r z x <;> simp_all
    · unfold ahead
      have n0 := byR_ntrans q r x y z; have n1 := byR_ntrans q r x z y; have n2 := byR_ntrans q r y x z; have n3 := byR_ntrans q r y z x; have n4 := byR_ntrans q r z x y; have n5 := byR_ntrans q r z y x; have axy := byR_asymm q r x y; have ayz := byR_asymm q r y z; have axz := byR_asymm q r x z; have i1 := ih.ntrans x y z
      cases hxy : byR q r x y <;> cases hyx : byR q r y x <;> cases hyz : byR q r y z <;> cases hzy : byR q r z y <;> cases hxz : byR q r x z <;> cases hzx : byR q r z x <;> simp_all

/-! ### the order -/
section
variable {α : Type} (lt : α → α → Bool)
/-- Put into a row that is turned round (its last element ahead). -/
def insRev (x : α) : List α → List α
  | [] => [x]
  | y :: ys => if lt x y = true then y :: insRev x ys else x :: y :: ys
def sortRev (o : List α) : List α → List α
  | [] => o
  | x :: l => sortRev (insRev lt x o) l
def sortL (l : List α) : List α := (sortRev lt [] l).reverse
theorem insRev_len (x : α) : ∀ ys : List α, (insRev lt x ys).length = ys.length + 1
  | [] => rfl
  | y :: ys => by unfold insRev; split <;> simp [insRev_len x ys]
theorem insRev_perm (x : α) : ∀ ys : List α, (insRev lt x ys).Perm (x :: ys)
  | [] => List.Perm.refl _
  | y :: ys => by
    unfold insRev; split
    · exact ((insRev_perm x ys).cons y).trans (List.Perm.swap x y ys)
    · exact List.Perm.refl _
theorem sortRev_perm : ∀ (l o : List α), (sortRev lt o l).Perm (l ++ o)
  | [], _ => List.Perm.refl _
  | x :: l, o => by
    unfold sortRev
    refine (sortRev_perm l _).trans ?_
    refine ((insRev_perm lt x o).append_left l).trans ?_
    exact List.perm_middle
theorem sortL_perm (l : List α) : (sortL lt l).Perm l := by
  unfold sortL
  refine (List.reverse_perm _).trans ?_
  simpa using sortRev_perm lt l []
theorem sortL_len (l : List α) : (sortL lt l).length = l.length := (sortL_perm lt l).length_eq
variable {lt}
theorem insRev_sorted (h : SWO lt) (x : α) : ∀ {ys : List α}, ys.Pairwise (fun a b => lt a b = false) → (insRev lt x ys).Pairwise (fun a b => lt a b = false)
  | [], _ => by unfold insRev; simp
  | y :: ys, hp => by
    have hc := List.pairwise_cons.1 hp
    unfold insRev; split
    · rename_i hxy
      refine List.pairwise_cons.2 ⟨fun z hz => ?_, insRev_sorted h x hc.2⟩
      rcases List.mem_cons.1 ((insRev_perm lt x ys).mem_iff.1 hz) with rfl | hz
      · cases hq : lt y z
        · rfl
        · have := h.trans _ _ _ hq hxy; rw [h.irrefl] at this; cases this
      · exact hc.1 z hz
    · rename_i hxy
      refine List.pairwise_cons.2 ⟨fun z hz => ?_, hp⟩
      rcases List.mem_cons.1 hz with rfl | hz
      · simpa using hxy
      · exact h.ntrans _ _ _ (by simpa using hxy) (hc.1 z hz)
theorem sortRev_sorted (h : SWO lt) : ∀ (l o : List α), o.Pairwise (fun a b => lt a b = false) → (sortRev lt o l).Pairwise (fun a b => lt a b = false)
  | [], _, ho => ho
  | x :: l, _, ho => sortRev_sorted h l _ (insRev_sorted h x ho)
/-- No element comes behind one that it is less than. -/
theorem sortL_sorted (h : SWO lt) (l : List α) : (sortL lt l).Pairwise (fun a b => lt b a = false) := by
  unfold sortL; rw [List.pairwise_reverse]; exact sortRev_sorted h l [] List.Pairwise.nil
variable (lt) [Inhabited α]
theorem swp_at (A : List α) (x y : α) (B : List α) : swp (A ++ y :: x :: B).toArray (A.length + 1) A.length = (A ++ x :: y :: B).toArray := by
  have e1 : (A ++ y :: x :: B).toArray[A.length]! = y := by simp
  have e2 : (A ++ y :: x :: B).toArray[A.length + 1]! = x := by simp
  unfold swp; rw [e1, e2]
  simp
theorem insInner_list (x : α) : ∀ (ys rest : List α), insInner lt 0 ys.length (ys.reverse ++ x :: rest).toArray = ((insRev lt x ys).reverse ++ rest).toArray
  | [], rest => by simp [insInner, insRev]
  | y :: ys, rest => by
    rw [List.length_cons, insInner]
    have e0 : (y :: ys).reverse ++ x :: rest = ys.reverse ++ y :: x :: rest := by simp
    have e1 : (ys.reverse ++ y :: x :: rest).toArray[ys.length]! = y := by
            simp
    have e2 : (ys.reverse ++ y :: x :: rest).toArray[ys.length + 1]! = x := by
      simp
    rw [e0, e1, e2]
    unfold insRev
    by_cases h : lt x y = true
    · rw [if_pos (by simp [h]), if_pos h]
      have := swp_at ys.reverse x y rest
      rw [List.length_reverse] at this
      rw [this, insInner_list x ys (y :: rest)]
      simp
    · rw [if_neg (by simp [h]), if_neg h]
      simp
theorem insOuter_list : ∀ (L ys : List α), insOuter lt 0 (ys.length + L.length) ys.length (ys.reverse ++ L).toArray = (sortRev lt ys L).reverse.toArray
  | [], ys => by rw [insOuter]; simp [sortRev]
  | x :: L, ys => by
    rw [insOuter, if_pos (by simp), insInner_list, sortRev]
    have := insOuter_list L (insRev lt x ys)
    rw [insRev_len] at this
    rw [← this]
    congr 1
    simp; omega
theorem insertionSort_list (l : List α) : insertionSort lt l.toArray 0 l.length = (sortL lt l).toArray := by
  unfold insertionSort sortL
  cases l with
  | nil => rw [insOuter]; simp [sortRev]
  | cons x l =>
    have := insOuter_list lt l [x]
    simp only [List.length_cons, List.length_nil, List.reverse_cons, List.reverse_nil, List.nil_append, List.singleton_append] at this
    rw [sortRev, insRev, ← this]
    congr 1
    simp; omega
end

def order (rs : List Int) (r : Int) (l : List Jb) : List Jb := sortL (ahead rs r) l
def validR (rs : List Int) : Bool := (List.range rs.length).all (fun i => decide (1 ≤ rs[i]?.getD 0) && decide (rs[i]?.getD 0 ≤ 6) && !(rs.take i).contains (rs[i]?.getD 0))
def orderV (rs : List Int) (r : Int) (l : List Jb) : List Jb := if validR rs = true then order rs r l else []
def lenP (r : Int) (j : Jb) : Int := if j.rcp = r then j.len else j.len + 20
theorem order_perm (rs : List Int) (r : Int) (l : List Jb) : (order rs r l).Perm l := sortL_perm _ _
theorem order_len (rs : List Int) (r : Int) (l : List Jb) : (order rs r l).length = l.length := sortL_len _ _
theorem order_sorted (rs : List Int) (r : Int) (l : List Jb) : (order rs r l).Pairwise (fun a b => ahead rs r b a = false) := sortL_sorted (swo rs r) l
/-- Of two jobs with different lots one is ahead. -/
theorem ahead_total {rs : List Int} {r : Int} {a b : Jb} (h1 : ahead rs r a b = false) (h2 : ahead rs r b a = false) : a.lot = b.lot := by
  induction rs with
  | nil => simp [ahead] at h1 h2; omega
  | cons x l ih =>
    unfold ahead at h1 h2
    cases hab : byR x r a b <;> cases hba : byR x r b a <;> simp_all
end Go.Proofs.Ytjdhjlhcdpekbaa.Dsp
