/-
  Cluster tools on paper: validity, the orders of a robot's tasks, the arcs of an order.
-/
import Derived.Test.YtiolmcnngpaapaaCy
namespace Go.Proofs.Ytiolmcnngpaapaa.Cl
open Cy (Arc within)

structure Cham where
  t : Int
  s : Int
structure Tool where
  chs : List Cham
  pick : Int
  place : Int
  travel : Int
  blades : Int

def okCham (x : Cham) : Bool := within x.t 0 100000 && within x.s 0 100000
def times3 (c : Tool) : Bool := within c.pick 0 10000 && within c.place 0 10000 && within c.travel 0 10000
def validT (c : Tool) : Bool := times3 c && (within c.blades 1 2 && within (c.chs.length : Int) 1 4 && c.chs.all okCham)
def work (c : Tool) : Int := if c.blades = 2 then c.pick + c.place else c.pick + c.travel + c.place
def iota (t : Nat) : List Int := (List.range t).map Int.ofNat
def chooseO (t : Nat) : Nat → List Int → List (List Int)
  | 0, pre => [pre]
  | f + 1, pre => (iota t).flatMap fun x => if pre.contains x then [] else chooseO t f (pre ++ [x])
def everyO (t : Nat) : List (List Int) := chooseO t (t - 1) [0]
def ordersT (c : Tool) : List (List Int) := if validT c then (if c.blades = 1 then everyO (c.chs.length + 1) else [iota (c.chs.length + 1)]) else []

def nxt (o : List Int) (i : Nat) : Int := if i + 1 < o.length then o.getD (i + 1) 0 else o.getD 0 0
def tokOf (o : List Int) (i : Nat) : Int := if i + 1 < o.length then 0 else 1
def travels (c : Tool) (a b : Int) : Bool := if c.blades = 2 then true else !(b == a + 1)
def ringArc (c : Tool) (o : List Int) (i : Nat) : Arc := ⟨o.getD i 0, nxt o i, if travels c (o.getD i 0) (nxt o i) then work c + c.travel else work c, tokOf o i⟩
def ringTo (c : Tool) (o : List Int) (k : Nat) : List Arc := (List.range k).map (ringArc c o)
def ixTo (x : Int) : List Int → Nat → Int
  | [], _ => -1
  | y :: l, i => if x = y then (i : Int) else ixTo x l (i + 1)
def ix (o : List Int) (x : Int) : Int := ixTo x o 0
def stayArcs (c : Tool) (o : List Int) (j least most : Int) : List Arc :=
  if c.blades = 2 then [⟨j, j, least, 1⟩, ⟨j, j, -most, -1⟩] else [⟨j - 1, j, least, if ix o j < ix o (j - 1) then 1 else 0⟩, ⟨j, j - 1, -most, -(if ix o j < ix o (j - 1) then 1 else 0)⟩]
def chArcs (c : Tool) (o : List Int) (i : Nat) : List Arc := stayArcs c o ((i : Int) + 1) (work c + (c.chs.getD i ⟨0, 0⟩).t) (work c + (c.chs.getD i ⟨0, 0⟩).t + (c.chs.getD i ⟨0, 0⟩).s)
def chTo (c : Tool) (o : List Int) (k : Nat) : List Arc := (List.range k).flatMap (chArcs c o)
def arcsC (c : Tool) (o : List Int) : List Arc := ringTo c o o.length ++ chTo c o c.chs.length

theorem validT_iff {c : Tool} : validT c = true ↔ (0 ≤ c.pick ∧ c.pick ≤ 10000) ∧ (0 ≤ c.place ∧ c.place ≤ 10000) ∧ (0 ≤ c.travel ∧ c.travel ≤ 10000) ∧ (c.blades = 1 ∨ c.blades = 2) ∧ (1 ≤ c.chs.length ∧ c.chs.length ≤ 4) ∧
    ∀ x ∈ c.chs, (0 ≤ x.t ∧ x.t ≤ 100000) ∧ (0 ≤ x.s ∧ x.s ≤ 100000) := by
  simp only [validT, times3, okCham, Bool.and_eq_true, Cy.within_iff, List.all_eq_true]
  constructor
  · rintro ⟨⟨⟨h1, h2⟩, h3⟩, ⟨h4, h5⟩, h6⟩; exact ⟨h1, h2, h3, by omega, by omega, h6⟩
  · rintro ⟨h1, h2, h3, h4, h5, h6⟩; exact ⟨⟨⟨h1, h2⟩, h3⟩, ⟨by omega, by omega⟩, h6⟩
theorem iota_len (t : Nat) : (iota t).length = t := by simp [iota]
theorem iota_at (t i : Nat) (h : i < (iota t).length) : (iota t)[i] = (i : Int) := by simp [iota]
theorem iota_mem {t : Nat} {x : Int} : x ∈ iota t ↔ 0 ≤ x ∧ x < t := by
  unfold iota; rw [List.mem_map]
  constructor
  · rintro ⟨y, hy, rfl⟩; rw [List.mem_range] at hy; exact ⟨Int.natCast_nonneg _, Int.ofNat_lt.2 hy⟩
  · rintro ⟨h1, h2⟩; exact ⟨x.toNat, by rw [List.mem_range]; omega, Int.toNat_of_nonneg h1⟩
theorem iota_take_succ {t k : Nat} (h : k < t) : (iota t).take (k + 1) = (iota t).take k ++ [(k : Int)] := by
  rw [List.take_add_one, List.getElem?_eq_getElem (by rw [iota_len]; exact h), iota_at]; rfl
/-- An order of the tasks 0 to n. -/
structure Ord (n : Nat) (o : List Int) : Prop where
  len : o.length = n + 1
  bd : ∀ x ∈ o, 0 ≤ x ∧ x ≤ n
  nd : o.Nodup
  zero : o.getD 0 (-1) = 0
theorem chooseO_mem (t : Nat) : ∀ f pre, pre.Nodup → (∀ x ∈ pre, 0 ≤ x ∧ x < (t : Int)) → ∀ o ∈ chooseO t f pre, o.length = pre.length + f ∧ o.Nodup ∧ (∀ x ∈ o, 0 ≤ x ∧ x < (t : Int)) ∧ o.take pre.length = pre := by
  intro f; induction f with
  | zero =>
    intro pre h1 h2 o ho
    rw [chooseO, List.mem_singleton] at ho
    subst ho; exact ⟨rfl, h1, h2, List.take_of_length_le (Nat.le_refl _)⟩
  | succ f ih =>
    intro pre h1 h2 o ho
    rw [chooseO, List.mem_flatMap] at ho
    obtain ⟨x, hx, ho⟩ := ho
    split at ho
    · cases ho
    · rename_i hc
      have hn : x ∉ pre := by simpa using hc
      obtain ⟨a1, a2, a3, a4⟩ := ih (pre ++ [x]) (by rw [List.nodup_append]; exact ⟨h1, by simp, fun a ha b hb => by rw [List.mem_singleton] at hb; subst hb; intro e; subst e; exact hn ha⟩) (fun y hy => by
        rcases List.mem_append.1 hy with hy | hy
        · exact h2 y hy
        · rw [List.mem_singleton] at hy; subst hy; exact iota_mem.1 hx) o ho
      refine ⟨by rw [a1]; simp; omega, a2, a3, ?_⟩
      have := congrArg (List.take pre.length) a4
      rw [List.take_take, List.length_append, List.take_append_of_le_length (Nat.le_refl _), List.take_of_length_le (Nat.le_refl _), Nat.min_eq_left (by simp)] at this
      exact this
theorem ord_of {c : Tool} {o : List Int} (h : o ∈ ordersT c) : Ord c.chs.length o := by
  unfold ordersT at h
  split at h
  · split at h
    · obtain ⟨a1, a2, a3, a4⟩ := chooseO_mem (c.chs.length + 1) _ [0] (by simp) (fun x hx => by rw [List.mem_singleton] at hx; omega) o h
      refine ⟨by rw [a1]; simp; omega, fun x hx => by have := a3 x hx; omega, a2, ?_⟩
      cases o with
      | nil => simp at a4
      | cons y l => simp at a4; simp [a4]
    · rw [List.mem_singleton] at h; subst h
      refine ⟨iota_len _, fun x hx => by have := iota_mem.1 hx; omega, ?_, ?_⟩
      · unfold iota; exact List.Pairwise.map _ (fun a b h e => h (Int.ofNat.inj e)) List.nodup_range
      · rw [List.getD_eq_getElem?_getD, List.getElem?_eq_getElem (by rw [iota_len]; omega), iota_at]; rfl
  · cases h
theorem getD_mem {o : List Int} {i : Nat} (h : i < o.length) : o.getD i 0 ∈ o := by
  rw [List.getD_eq_getElem?_getD, List.getElem?_eq_getElem h]; exact List.getElem_mem h
theorem chAt_mem {c : Tool} {i : Nat} (h : i < c.chs.length) : c.chs.getD i ⟨0, 0⟩ ∈ c.chs := by
  rw [List.getD_eq_getElem?_getD, List.getElem?_eq_getElem h]; exact List.getElem_mem h
theorem work_bd {c : Tool} (h : validT c = true) : 0 ≤ work c ∧ work c ≤ 30000 := by
  obtain ⟨h1, h2, h3, _⟩ := validT_iff.1 h
  unfold work; split <;> omega
theorem ringTo_succ (c : Tool) (o : List Int) (k : Nat) : ringTo c o (k + 1) = ringTo c o k ++ [ringArc c o k] := by
  unfold ringTo; rw [List.range_succ, List.map_append]; rfl
theorem ringTo_len (c : Tool) (o : List Int) (k : Nat) : (ringTo c o k).length = k := by simp [ringTo]
theorem chTo_succ (c : Tool) (o : List Int) (k : Nat) : chTo c o (k + 1) = chTo c o k ++ chArcs c o k := by
  unfold chTo; rw [List.range_succ, List.flatMap_append]; simp
theorem stayArcs_len (c : Tool) (o : List Int) (j l m : Int) : (stayArcs c o j l m).length = 2 := by unfold stayArcs; split <;> rfl
theorem chTo_len (c : Tool) (o : List Int) (k : Nat) : (chTo c o k).length = 2 * k := by
  induction k with
  | zero => rfl
  | succ k ih => rw [chTo_succ, List.length_append, ih]; unfold chArcs; rw [stayArcs_len]; omega
theorem arcsC_len {c : Tool} {o : List Int} : (arcsC c o).length = o.length + 2 * c.chs.length := by unfold arcsC; rw [List.length_append, ringTo_len, chTo_len]
theorem nxt_bd {n : Nat} {o : List Int} (h : Ord n o) (i : Nat) : 0 ≤ nxt o i ∧ nxt o i ≤ n := by
  unfold nxt; split
  · exact h.bd _ (getD_mem (by assumption))
  · exact h.bd _ (getD_mem (by rw [h.len]; omega))
/-- The arcs of a valid tool's order are valid. -/
theorem arcsC_valid {c : Tool} {o : List Int} (hc : validT c = true) (ho : Ord c.chs.length o) : Cy.valid ((o.length : Nat) : Int) (arcsC c o) = true := by
  obtain ⟨h1, h2, h3, h4, h5, h6⟩ := validT_iff.1 hc
  have hw := work_bd hc
  refine Cy.valid_iff.2 ⟨by rw [ho.len]; omega, by rw [arcsC_len, ho.len]; omega, fun a ha => ?_⟩
  rw [Cy.okArc_iff, ho.len]
  unfold arcsC at ha
  rcases List.mem_append.1 ha with ha | ha
  · unfold ringTo at ha
    obtain ⟨i, hi, rfl⟩ := List.mem_map.1 ha
    rw [List.mem_range] at hi
    have b1 := ho.bd _ (getD_mem hi)
    have b2 := nxt_bd ho i
    have b3 : tokOf o i = 0 ∨ tokOf o i = 1 := by unfold tokOf; split <;> omega
    simp only [ringArc]
    generalize o.getD i 0 = x at *
    generalize nxt o i = y at *
    generalize tokOf o i = z at *
    refine ⟨by omega, by omega, ?_, by omega⟩
    split <;> omega
  · unfold chTo at ha
    obtain ⟨i, hi, ha⟩ := List.mem_flatMap.1 ha
    rw [List.mem_range] at hi
    have b1 := h6 _ (chAt_mem hi)
    unfold chArcs stayArcs at ha
    generalize c.chs.getD i ⟨0, 0⟩ = x at *
    have b2 : (if ix o (↑i + 1) < ix o (↑i + 1 - 1) then (1 : Int) else 0) = 0 ∨ (if ix o (↑i + 1) < ix o (↑i + 1 - 1) then (1 : Int) else 0) = 1 := by split <;> omega
    generalize (if ix o (↑i + 1) < ix o (↑i + 1 - 1) then (1 : Int) else 0) = y at *
    split at ha
    · rcases List.mem_cons.1 ha with rfl | ha
      · simp only; omega
      · rw [List.mem_singleton] at ha; subst ha; simp only; omega
    · rcases List.mem_cons.1 ha with rfl | ha
      · simp only; omega
      · rw [List.mem_singleton] at ha; subst ha; simp only; omega
end Go.Proofs.Ytiolmcnngpaapaa.Cl
