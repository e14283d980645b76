/-
  CycleMore on paper; an append of a row of arcs to a row of arcs.
-/
import Derived.Test.YtkabjecdbkbpaaaLeP
import Derived.Test.YtkabjecdbkbpaaaOptW
import Derived.Laws.AppendOwnNone
namespace Go.Proofs.Ytkabjecdbkbpaaa
open Go.RowKit Go.Shelf Cy

theorem oneCell_arcs {L : List Arc} : ∀ u ∈ L.flatMap arcCells, u.oneCell' = true := by
  intro u hu
  obtain ⟨x, _, hx⟩ := List.mem_flatMap.1 hu
  simp only [arcCells, List.mem_cons, List.not_mem_nil, or_false] at hx
  rcases hx with rfl | rfl | rfl | rfl <;> rfl
theorem wpList_append_arcs {ops : Array Oper} {rest : List Oper} {o : Oper} {a : Act} {Q : Exit → Act → World → Prop} {w : World} (hgd : o.guard = none) (s x : Operand)
    (ho : o.op = .call { callee := .builtin .append, args := #[s, x], argTypes := #[23, 23] }) (B : Nat) (v : Value) (L1 : List Arc) (hs : a.eval s = v) (h1 : ArcO w B v L1) (B2 : Nat) (v2 : Value) (L2 : List Arc) (hx : a.eval x = v2) (h2 : ArcO w B2 v2 L2)
    (hl1 : L1.length ≤ 1000) (hl2 : L2.length ≤ 1000) (hB : B ≤ w.heap.size) (h : ∀ v' w', ArcO w' B v' (L1 ++ L2) → w.grownBy w' v.ownBlock → wpList Try.prog ops Q rest (a.put o.dst v') w') : wpList Try.prog ops Q (o :: rest) a w := by
  obtain ⟨i0, hi, hz0, hz1, hz2⟩ := info_parts info_arc
  have h2' := h2
  rcases h2.2 with ⟨rfl, h0⟩ | ⟨g, cap, cur, rfl, _, _, _, hcap, _, _⟩
  · have e : L2 = [] := List.length_eq_zero_iff.1 h0
    subst e
    rw [List.append_nil] at h
    exact wpList_append_own_none hgd s x 23 ho B 44 i0 4 Try.underlying23 hi v _ _ hs h1 hx (h v w h1 ⟨rfl, rfl, rfl, Nat.le_refl _, fun _ _ _ => rfl⟩)
  · refine wpList_append_own w hgd s x 23 ho B 44 i0 _ 4 32 Try.underlying23 hi hz0 hz1 hz2 rfl (by decide) v _ _ hs h1 ⟨g, 0, none⟩ L2.length cap (L2.flatMap arcCells) hx h2'.1 (h2'.cells (g := g) rfl) oneCell_arcs (by unfold maxLen; omega) (by omega) hB ?_
    intro v' w' h3 h4 _
    refine h v' w' ?_ h4
    show w'.ownsRow B 44 4 v' (L1 ++ L2).length ((L1 ++ L2).flatMap arcCells)
    rw [List.length_append, List.flatMap_append]; exact h3
/-- What the three calls of Levels answer. -/
theorem more_facts {n : Nat} {p : Int} {A B : List Arc} (hA : valid (n : Int) A = true) (hB : valid (n : Int) B = true) (hp : isPer p = true) (hm : ∀ a ∈ A, a ∈ B) (hn : 1 ≤ n) :
    (starts p A n = none ∧ starts p B n = none ∧ starts p A.reverse n = none) ∨ (∃ s, starts p A n = some s ∧ starts p A.reverse n = some s ∧ (starts p B n = none ∨ ∃ t, starts p B n = some t ∧ ∀ j, j < n → s.getD j 0 ≤ t.getD j 0)) := by
  have gA := valid_good hA hp
  have gB := valid_good hB hp
  have hr : starts p A n = starts p A.reverse n := same_starts gA (fun a => by simp) hn
  cases ea : starts p A n with
  | none =>
    left
    refine ⟨rfl, ?_, by rw [← hr, ea]⟩
    cases eb : starts p B n with
    | none => rfl
    | some t =>
      obtain ⟨s, h1, _⟩ := more gA gB hm hn eb
      rw [ea] at h1; cases h1
  | some s =>
    right
    refine ⟨s, rfl, by rw [← hr, ea], ?_⟩
    cases eb : starts p B n with
    | none => exact .inl rfl
    | some t =>
      obtain ⟨s', h1, _, _, h4⟩ := more gA gB hm hn eb
      rw [ea] at h1; injection h1 with h1; subst h1
      exact .inr ⟨t, rfl, h4⟩
theorem reverse_valid {n : Int} {L : List Arc} (h : valid n L = true) : valid n L.reverse = true := by
  obtain ⟨h1, h2, h3⟩ := valid_iff.1 h
  exact valid_iff.2 ⟨h1, by simpa using h2, fun a ha => h3 a (by simpa using ha)⟩
theorem append_valid {n : Int} {L M : List Arc} (h : valid n L = true) (k : valid n M = true) (hl : L.length + M.length ≤ 200) : valid n (L ++ M) = true := by
  obtain ⟨h1, h2, h3⟩ := valid_iff.1 h
  obtain ⟨_, _, k3⟩ := valid_iff.1 k
  exact valid_iff.2 ⟨h1, by simpa using hl, fun a ha => by rcases List.mem_append.1 ha with h | h; exact h3 a h; exact k3 a h⟩
theorem rev_take {L : List Arc} {m k : Nat} (h : m + 1 + k = L.length) : L.reverse.take (k + 1) = L.reverse.take k ++ [L[m]'(by omega)] := by
  rw [List.take_add_one, List.getElem?_reverse (by omega), show L.length - 1 - k = m by omega, List.getElem?_eq_getElem (by omega)]; rfl
theorem ArcO.arg {w : World} {B : Nat} {v : Value} {L : List Arc} (h : ArcO w B v L) : ∃ a c, v = .slice a L.length c ∧ ArcA w a c L ∧ ∀ x, a = some x → B ≤ x.block ∧ x.block < w.heap.size := by
  obtain ⟨a, c, rfl, h1, h2⟩ := RowO.arg arc_len h
  exact ⟨a, c, rfl, h1, fun x hx => World.ownsRow.lt h _ (h2 x hx)⟩
/-- Levels without starts, and with them. -/
theorem lvN_any {n : Nat} {p : Int} {L : List Arc} (hn : n ≤ 7) (hv : valid (n : Int) L = true) (hp : isPer p = true) (h : starts p L n = none) {a : Option Addr} {c : Nat} {w : World} (hA : ArcA w a c L) (hS4 : ∀ x, a = some x → x.block < w.heap.size) :
    Calls Try.prog 14 #[.int .i64 n, .slice a L.length c, .int .i64 p] w fun e w' => ∃ sa sc ca cl cc, e = .returned (.tuple #[.slice sa 0 sc, .slice ca cl cc, .bool false]) ∧ IntsA w' sa sc [] ∧ Below w.heap.size w w' := by
  refine (lvB_any (n : Int) p (by unfold Fits; omega) L a c w hA hS4).mono ?_
  rintro e w' ⟨sa, sc, ca, cc, he, h1, h2, hb⟩
  obtain ⟨e1, e2, e3⟩ := lv_nil hv hp h
  rw [e2] at h1
  exact ⟨sa, sc, ca, _, cc, by rw [he, e1, e2]; rfl, h1, hb⟩
theorem lvI_any {n : Nat} {p : Int} {L : List Arc} (hn : n ≤ 7) (hv : valid (n : Int) L = true) (hp : isPer p = true) {s : List Int} (h : starts p L n = some s) {a : Option Addr} {c : Nat} {w : World} (hA : ArcA w a c L) (hS4 : ∀ x, a = some x → x.block < w.heap.size) :
    Calls Try.prog 14 #[.int .i64 n, .slice a L.length c, .int .i64 p] w fun e w' => ∃ sa sc ca cc, e = .returned (.tuple #[.slice sa n sc, .slice ca 0 cc, .bool true]) ∧ IntsA w' sa sc s ∧ Below w.heap.size w w' := by
  refine (lvB_any (n : Int) p (by unfold Fits; omega) L a c w hA hS4).mono ?_
  rintro e w' ⟨sa, sc, ca, cc, he, h1, h2, hb⟩
  obtain ⟨e1, e2, e3⟩ := lv_some hv hp h
  have hl := (starts_is (valid_good hv hp) h).1
  rw [e2] at h1
  exact ⟨sa, sc, ca, cc, by rw [he, e1, e2, e3, hl]; rfl, h1, hb⟩
theorem same_nil (aa ba : Option Addr) (ac bc : Nat) (w : World) (hA : IntsA w aa ac []) (hB : IntsA w ba bc []) :
    Calls Try.prog 18 #[.slice aa 0 ac, .slice ba 0 bc] w fun e w' => e = .returned (.bool true) ∧ Below w.heap.size w w' := sameInts_any [] [] aa ba ac bc w hA hB
theorem same_self {n : Nat} {s : List Int} (hs : s.length = n) (aa ba : Option Addr) (ac bc : Nat) (w : World) (hA : IntsA w aa ac s) (hB : IntsA w ba bc s) :
    Calls Try.prog 18 #[.slice aa n ac, .slice ba n bc] w fun e w' => e = .returned (.bool true) ∧ Below w.heap.size w w' := by
  have := sameInts_any s s aa ba ac bc w hA hB
  rw [decide_eq_true rfl, hs] at this
  exact this
end Go.Proofs.Ytkabjecdbkbpaaa
