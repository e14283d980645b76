/-
  Requirements: arcs to which others are added.
-/
import Derived.Test.YtiolmcnngpaapaaVc
import Derived.Deep.AppendLies
namespace Go

/-- append asks of its arguments' types no more than what is under them. -/
theorem run_append_types {P : Program} (t t' ty e : TypeId) (b : Option Addr) (l k : Nat) (x : Value) (w : World) (hu : P.underlying t = some (.slice e)) (hu' : P.underlying t' = some (.slice e)) :
    (Builtin.append_ #[t, t'] ty #[.slice b l k, x]).run P w = (Builtin.append_ #[t, t] ty #[.slice b l k, x]).run P w := by
  unfold Builtin.append_
  simp [run_underlying hu, run_underlying hu']
theorem own_slice' {w : World} {base : Nat} {e : TypeId} {size : Nat} {v : Value} {n : Nat} {xs : List Value} (h : w.ownsRow base e size v n xs) : ∃ a c, v = .slice a n c ∧ n ≤ c := by
  rcases h.2 with ⟨rfl, h0⟩ | ⟨g, cap, cur, rfl, h2, h3, h4, h5, h6, h7⟩
  · exact ⟨none, 0, by rw [h0], by omega⟩
  · exact ⟨_, cap, rfl, h4⟩
/-- At the list of a plain region's operations, the second list of another type. -/
theorem wpList_append_lies2 {P : Program} (w : World) {ops : Array Oper} {rest : List Oper} {o : Oper} {a : Act} {Q : Exit → Act → World → Prop} (hgd : o.guard = none) (s x : Operand) (t t' : TypeId)
    (ho : o.op = .call { callee := .builtin .append, args := #[s, x], argTypes := #[t, t'] })
    (base : Nat) (e : TypeId) (i : TypeInfo) (z : Value) (size bytes : Nat) (ht : P.underlying t = some (.slice e)) (ht' : P.underlying t' = some (.slice e)) (hi : P.info? e = some i) (hz : i.zero = some z)
    (hsize : i.size = size) (hby : i.bytes = bytes) (hzs : z.cells.size = size) (hsz : 0 < size)
    (v : Value) (n : Nat) (xs : List Value) (hs : a.eval s = v) (hown : w.ownsRow base e size v n xs)
    (ad : Addr) (m c : Nat) (news : List Value) (hx : a.eval x = .slice (some ad) m c) (hl : news.length = m * size) (hnews : ∀ j u, news[j]? = some u → w.cell? (ad.add j) = some u) (h1 : ∀ u ∈ news, u.oneCell' = true)
    (hm : 0 < m) (h63 : n + m ≤ maxLen) (hbytes : (n + m) * bytes ≤ 140737488355328) (hbase : base ≤ w.heap.size) (H : Nat) (hH : w.heap.size = H)
    (h : ∀ g cap w', w'.ownsRow base e size (.slice (some ⟨g, 0, none⟩) (n + m) cap) (n + m) (xs ++ news) → w.grownBy w' v.ownBlock → (v.ownBlock = some g ∨ g = H) → g < w'.heap.size → wpList P ops Q rest (a.put o.dst (.slice (some ⟨g, 0, none⟩) (n + m) cap)) w') : wpList P ops Q (o :: rest) a w := by
  refine wpList_plain hgd fun _ hK => ?_
  obtain ⟨g, cap, w', hr, h2, h3, h4, h5⟩ := run_append_lies (P := P) w t o.type base e i z size bytes ht hi hz hsize hby hzs hsz v n xs hown ad m c news hl hnews h1 hm h63 hbytes hbase H hH
  obtain ⟨va, vc, rfl, -⟩ := own_slice' hown
  have hr' := (run_append_types t t' o.type e va n vc (.slice (some ad) m c) w ht ht').trans hr
  unfold Oper.wp execOp
  simp only [ho, resolve, invoke, builtin, Sem.run_bind, Sem.run_pure, Result.andThen_ok, List.map_toArray, List.map_cons, List.map_nil, hs, hx, hr']
  exact hK _ _ (h g cap w' h2 h3 h4 h5)
end Go
namespace Go.Proofs.Ytiolmcnngpaapaa
open Go.RowKit Go.Shelf Cl
open Cy (Arc)

/-- The box X holds a row of arcs that the call has made, in blocks from B on. -/
def ReqAt (w : World) (B X : Nat) (L : List Arc) : Prop := ∃ v, w.heap[X]? = some (.cells #[v] 104) ∧ ArcO w B v L ∧ (∀ k, v.ownBlock = some k → k ≠ X)
theorem ReqAt.below {w w' : World} {B X : Nat} {L : List Arc} (h : ReqAt w B X L) (hb : Below w.heap.size w w') : ReqAt w' B X L := by
  obtain ⟨v, h1, h2, h3⟩ := h
  exact ⟨v, box_below h1 hb, h2.below hb, h3⟩
/-- Blocks that hold no arcs, and are not X, are as they were. -/
def KeepX (X : Nat) (w w' : World) : Prop := ∀ k cs t, w.heap[k]? = some (.cells cs t) → t ≠ 71 → k ≠ X → w'.heap[k]? = some (.cells cs t)
theorem KeepX.trans {X : Nat} {a b c : World} (h : KeepX X a b) (g : KeepX X b c) : KeepX X a c := fun k cs t h1 h2 h3 => g k cs t (h k cs t h1 h2 h3) h2 h3
theorem KeepX.ofBelow {X : Nat} {w w' : World} (h : Below w.heap.size w w') : KeepX X w w' := fun _ _ _ h1 _ _ => box_below h1 h
theorem flat_len (A : List Arc) : (A.flatMap arcCells).length = A.length * 4 := by
  induction A with
  | nil => rfl
  | cons a A ih => rw [List.flatMap_cons, List.length_append, ih, arc_len, List.length_cons]; omega
set_option maxRecDepth 100000 in
set_option maxHeartbeats 1000000 in
theorem add_any (B X : Nat) (hBX : B ≤ X) (L A : List Arc) (hl : L.length ≤ 1000 ∧ A.length ≤ 1000) (a : Option Addr) (c : Nat) (w : World) (h : ReqAt w B X L) (hA : ArcA w a c A) (hne : 0 < A.length) :
    Calls Try.prog 71 #[.pointer (some ⟨X, 0, none⟩), .slice a A.length c] w fun e w' => e = .returned (.tuple #[]) ∧ ReqAt w' B X (L ++ A) ∧ Below B w w' ∧ KeepX X w w' := by
  obtain ⟨v, h1, h2, h3⟩ := h
  obtain ⟨i0, hi, hz0, hz1, hz2⟩ := info_parts info_arc
  have x0 : w.cell? ⟨X, 0, none⟩ = some v := box_cell h1 0 _ rfl
  obtain ⟨g, off, rfl, hg, hc⟩ := hA.at hne
  have HNW := Lib.hid (show ∀ j u, (A.flatMap arcCells)[j]? = some u → w.cell? ((⟨g, off, none⟩ : Addr).add j) = some u from fun j u hu => by
    have hj : j < A.length * 4 := by
      have := (List.getElem?_eq_some_iff.1 hu).1
      rw [flat_len] at this
      exact this
    have hi : j / 4 < A.length := by omega
    have h4 : j % 4 < 4 := Nat.mod_lt _ (by omega)
    have hjj : j / 4 * 4 + j % 4 = j := by omega
    have := flat_at arcCells 4 arc_len A (j / 4) (j % 4) hi h4
    rw [hjj] at this
    have h5 := hc (j / 4) hi (j % 4) u (this.symm.trans hu)
    rw [show off + j / 4 * 4 + j % 4 = off + j by omega] at h5
    cases j <;> simpa [Addr.add] using h5)
  have HLn := Lib.hid (show (A.flatMap arcCells).length = A.length * 4 from flat_len A)
  have HO := Lib.hid h2; have H1 := Lib.hid h1; have H3 := Lib.hid h3
  have HX := Lib.hid (lt_of_block h1)
  have HOne := Lib.hid (show ∀ u ∈ A.flatMap arcCells, u.oneCell' = true from fun u hu => by
    obtain ⟨x, _, hx⟩ := List.mem_flatMap.1 hu
    simp only [arcCells, List.mem_cons, List.not_mem_nil, or_false] at hx
    rcases hx with rfl | rfl | rfl | rfl <;> rfl)
  have HSn := Lib.hid (show (L ++ A).flatMap arcCells = L.flatMap arcCells ++ A.flatMap arcCells from List.flatMap_append)
  have HSl := Lib.hid (show (L ++ A).length = L.length + A.length from List.length_append)
  clear hc hA h1 h2 h3
  generalize hLA : L ++ A = LA at *
  generalize hf : A.flatMap arcCells = news at *
  generalize hm : A.length = m at *
  clear hLA hf hm
  go_enter Try.func71, Try.ntmps71
  go_wp2_with (at_builtin; refine wpList_append_lies2 _ rfl _ _ 104 39 rfl B 71 i0 _ 4 32 Try.underlying104 Try.underlying39 hi hz0 hz1 hz2 rfl (by decide) v L.length (L.flatMap arcCells) rfl HO.out ⟨g, off, none⟩ m c news rfl HLn.out HNW.out HOne.out hne ?c3 ?c4 ?c5 _ rfl ?_)
  case c3 => unfold maxLen; omega
  case c4 => omega
  case c5 => have := HX.out; omega
  intro g2 cap w1 hown hgrow hat hlt
  have HR := Lib.hid (show w1.heap[X]? = some (.cells #[v] 104) from (hgrow.block X HX.out (fun e => H3.out X e.symm rfl)).trans H1.out)
  have HB1 := Lib.hid (show Below B w w1 from (Below.refl B w).grown hgrow (by have := HX.out; omega) (fun k e => (HO.out.lt k e).1))
  have hne2 : g2 ≠ X := by
    rcases hat with e | e
    · exact H3.out g2 e
    · have := HX.out; omega
  have HOw := Lib.hid (show ArcO w1 B (.slice (some ⟨g2, 0, none⟩) (L.length + m) cap) LA from by
    unfold ArcO RowO; rw [HSl.out, HSn.out]; exact hown)
  have c0 : w1.cell? ⟨X, 0, none⟩ = some v := box_cell HR.out 0 _ rfl
  have z0 : w1.frozen? ⟨X, 0, none⟩ = false := box_fz HR.out 0
  obtain ⟨va, vl, vc, rfl⟩ : ∃ a l c, v = .slice a l c := by
    obtain ⟨a, c, e, -⟩ := own_slice HO.out; exact ⟨a, _, c, e⟩
  have hX1 : X < w1.heap.size := lt_of_block HR.out
  have HK1 := Lib.hid (show KeepX X w w1 from fun k cs t h1 h2 h3 => (hgrow.block k (lt_of_block h1) (fun e => by
    obtain ⟨cs2, h4⟩ := own_block HO.out e.symm
    rw [h1] at h4; injection h4 with h4; injection h4 with h4 h5; exact h2 h5)).trans h1)
  clear hown hgrow hat
  go_wp2_with fail
  go_end0
  have hset := block_set (o := 0) HR.out (.slice (some ⟨g2, 0, none⟩) (L.length + m) cap)
  refine ⟨rfl, ⟨_, hset, ?_, ?_⟩, ?_, ?_⟩
  · exact RowO.ch (S := fun i => i = X) HOw.out (Ch.grown (grown_set (w := w1) X 0 _) (fun k e => by injection e with e; exact e.symm)) (fun i e h => by
      simp [Value.ownBlock] at e; omega)
  · intro k e; simp [Value.ownBlock] at e; omega
  · exact HB1.out.grown (grown_set (w := w1) X 0 _) (by omega) (fun k e => by injection e with e; omega)
  · exact HK1.out.trans (fun k cs t h1 h2 h3 => ((grown_set (w := w1) X 0 (.slice (some ⟨g2, 0, none⟩) (L.length + m) cap)).block k (lt_of_block h1) (fun e => h3 (by injection e))).trans h1)
end Go.Proofs.Ytiolmcnngpaapaa
