/-
  Sorting a row of jobs of the call's own by a comparison: the library's insertion sort, laid by hand at this program.
-/
import Derived.Test.YtjdhjlhcdpekbaaCmp
namespace Go.Proofs.Ytjdhjlhcdpekbaa
open Go.RowKit Go.Shelf Go.Sort Dsp

theorem flat_jb (l : List Jb) : flatK jbCells 7 l.toArray = (jbRow l).toArray := by
  refine ext_get! (by simp [jbRow_length]) fun t ht => ?_
  have ht' : t < l.length * 7 := by simpa using ht
  have h1 : t / 7 < l.length := by omega
  rw [get_flatK _ _ _ t (by simpa using ht')]
  have h2 := jbRow_at l (t / 7) (t % 7) h1 (Nat.mod_lt _ (by decide))
  rw [show t / 7 * 7 + t % 7 = t by omega] at h2
  have h3 : (jbRow l).toArray[t]? = (jbCells l[t / 7])[t % 7]? := by simpa using h2
  have e1 : l.toArray[t / 7]! = l[t / 7] := by simp [h1]
  rw [e1]
  have : t % 7 < (jbCells l[t / 7]).length := Nat.mod_lt _ (by decide)
  rw [List.getElem?_eq_getElem this] at h3
  rw [getElem!_pos (jbCells l[t / 7]) (t % 7) this, getElem!_pos (jbRow l).toArray t (by simpa [jbRow_length] using ht')]
  exact (Array.getElem?_eq_some_iff.1 h3).2.symm
/-- A row of jobs as the library's sort wants it. -/
theorem jb_holds {w : World} {B g n cap : Nat} {l : List Jb} (h : w.ownsRow B 43 7 (.slice (some ⟨g, 0, none⟩) n cap) n (jbRow l)) : HoldsK jbCells 7 w g 0 l.toArray := by
  obtain ⟨h1, ⟨h2, _⟩ | ⟨g', cap', cur, hv, h2, h3, h4, h5, h6, h7⟩⟩ := h
  · cases h2
  · injection hv with hv _ _; injection hv with hv; injection hv with hv _ _; subst hv
    unfold HoldsK
    rw [flat_jb]
    intro j hj
    have hj' : j < (jbRow l).length := by simpa using hj
    have hc : cur[j]? = some (jbRow l)[j] := by
      rw [← Array.getElem?_toList]
      have : (cur.toList.take (n * 7))[j]? = some (jbRow l)[j] := by rw [h7]; exact List.getElem?_eq_getElem hj'
      rw [List.getElem?_take] at this
      split at this
      · exact this
      · cases this
    refine ⟨?_, by simp [World.frozen?, h3]⟩
    simp only [World.cell?, h3, Nat.zero_add]
    rw [hc]
    simp [hj']
theorem sort_heap {w : World} {g m : Nat} {d : Array Jb} {os : Array Obj} (k : Nat) (hk : k < w.heap.size) : (sortWorldK jbCells 7 w g 0 m d os).heap[k]? = (w.heap.modify g (onCells (putCells id 0 (flatK jbCells 7 d))))[k]? := by
  unfold sortWorldK putRowK putRow mapBlock grow
  simp only [Sort.ahead]
  rw [Array.getElem?_append_left (by simpa using hk)]
theorem sort_ch (w : World) (g m : Nat) (d : Array Jb) (os : Array Obj) : Ch (fun k => k = g) w (sortWorldK jbCells 7 w g 0 m d os) := by
  refine ⟨rfl, rfl, rfl, ?_, fun k hk hne => ?_⟩
  · simp [sortWorldK, putRowK, putRow, mapBlock, grow, Sort.ahead]
  · rw [sort_heap k hk, Array.getElem?_modify, if_neg (fun e => hne e.symm)]
theorem sort_own {w : World} {B g n cap m : Nat} {l l' : List Jb} {os : Array Obj} (h : w.ownsRow B 43 7 (.slice (some ⟨g, 0, none⟩) n cap) n (jbRow l)) (hn : n = l'.length) :
    (sortWorldK jbCells 7 w g 0 m l'.toArray os).ownsRow B 43 7 (.slice (some ⟨g, 0, none⟩) n cap) n (jbRow l') := by
  obtain ⟨h1, ⟨h2, _⟩ | ⟨g', cap', cur, hv, h2, h3, h4, h5, h6, h7⟩⟩ := h
  · cases h2
  · injection hv with hv _ hc; injection hv with hv; injection hv with hv _ _; subst hv; subst hc
    refine ⟨by rw [jbRow_length, hn], .inr ⟨g, cap, putCells id 0 (jbRow l').toArray cur, rfl, h2, ?_, h4, h5, ?_, ?_⟩⟩
    · rw [sort_heap g (lt_of_block h3), Array.getElem?_modify, if_pos rfl, h3, flat_jb]; rfl
    · unfold putCells; simp [h6]
    · have hle : n * 7 ≤ cap * 7 := Nat.mul_le_mul_right 7 h4
      refine List.ext_getElem? fun j => ?_
      by_cases hj : j < n * 7
      · have hj' : j < (jbRow l').length := by rw [jbRow_length, ← hn]; exact hj
        rw [List.getElem?_take_of_lt hj, List.getElem?_eq_getElem hj', Array.getElem?_toList]
        unfold putCells
        rw [Array.getElem?_mapIdx]
        have : j < cur.size := by omega
        rw [Array.getElem?_eq_getElem this]
        simp [hj']
      · rw [List.getElem?_eq_none (by simp; omega), List.getElem?_eq_none (by rw [jbRow_length, ← hn]; omega)]

/-! ### the library's insertion sort at this program -/
def ren20 : Ren := ⟨fun | 20 => 89 | n => n, fun | 0 => 0 | 3 => 3 | 4 => 4 | 22 => 22 | 24 => 43 | 25 => 95 | n => n, fun n => n⟩
theorem lays20 : SlLaysF0.n20 Try.prog ren20 :=
  { mixed := by kernel_rfl
    f20 := ⟨"slices.insertionSortCmpFunc[cleanroom/api.Job]", by decide, Try.func89.trans (congrArg some (by kernel_rfl))⟩
    t0 := Try.underlying0, a0 := Try.isAgg0, z0 := Try.sizeOf0, v0 := Try.zeroValue0
    t3 := Try.underlying3, a3 := Try.isAgg3, z3 := Try.sizeOf3, v3 := Try.zeroValue3
    t4 := Try.underlying4, a4 := Try.isAgg4, z4 := Try.sizeOf4, v4 := Try.zeroValue4
    t22 := Try.underlying22, a22 := Try.isAgg22, z22 := Try.sizeOf22, v22 := Try.zeroValue22
    t25 := Try.underlying95, a25 := Try.isAgg95, z25 := Try.sizeOf95, v25 := Try.zeroValue95 }
theorem jb_one : ∀ (x : Jb), ∀ v ∈ jbCells x, v.oneCell' = true := by
  intro x v hv
  simp only [jbCells, List.mem_cons, List.not_mem_nil, or_false] at hv
  rcases hv with rfl | rfl | rfl | rfl | rfl | rfl | rfl <;> rfl

theorem cmp_lays {b0 X : Nat} {rs : List Int} {r : Int} {w : World} {g n : Nat} (hc : CmpAt b0 X (qsOf rs) r w) (h16 : ∀ x ∈ rs, 1 ≤ x ∧ x ≤ 6) (hg : g < b0) : CmpLays Try.prog 97 #[.pointer (some ⟨X, 0, none⟩)] jbCells 7 (cmp rs r) g 0 n w := by
  intro m os dk _ x y
  have h1 := hc.ch (sort_ch w g m dk os) (fun k hk e => by omega)
  refine (firstOf1_any b0 X (qsOf rs) r x y _ h1).mono fun e w' ⟨he, hgr⟩ => ⟨by rw [he, cmpQ_of h16], hgr⟩
theorem insertion_any {b0 X : Nat} {rs : List Int} {r : Int} {w : World} {B g n cap : Nat} {l : List Jb} (hc : CmpAt b0 X (qsOf rs) r w) (h16 : ∀ x ∈ rs, 1 ≤ x ∧ x ≤ 6) (hg : g < b0)
    (hn : n = l.length) (hl : n < 4611686018427387904) (h : w.ownsRow B 43 7 (.slice (some ⟨g, 0, none⟩) n cap) n (jbRow l)) :
    Calls Try.prog 89 #[.slice (some ⟨g, 0, none⟩) n cap, .int .i64 0, .int .i64 n, .func (.func 97) #[] #[.pointer (some ⟨X, 0, none⟩)]] w fun e w' =>
      e = .returned (.tuple #[]) ∧ w'.ownsRow B 43 7 (.slice (some ⟨g, 0, none⟩) n cap) n (jbRow (order rs r l)) ∧ Ch (fun k => k = g) w w' := by
  have hb : g < w.heap.size := (h.lt g rfl).2
  have := AnyQ.insertionSortCmpFunc lays20 7 Try.isAgg43 Try.sizeOf43 jbCells (fun _ => rfl) jb_one (cmp rs r) 97 #[.pointer (some ⟨X, 0, none⟩)] g 0 cap 0 l.length l.toArray w
    (enters_of Try.func97 (by kernel_rfl) rfl) (cmp_lays hc h16 hg) (jb_holds h) hb (Nat.zero_le _) (by simp) (by simpa [← hn] using hl)
  subst hn
  have e0 : ren20.f 20 = 89 := rfl
  rw [e0] at this
  refine this.mono fun e w' ⟨he, m, os, hw⟩ => ?_
  rw [ltOf_cmp, show insertionSort (Dsp.ahead rs r) l.toArray 0 l.length = (order rs r l).toArray from insertionSort_list _ l] at hw
  subst hw
  exact ⟨he, sort_own h (order_len rs r l).symm, sort_ch _ _ _ _ _⟩
theorem insertion_none (fv : Value) (w : World) : Calls Try.prog 89 #[.slice none 0 0, .int .i64 0, .int .i64 0, fv] w fun e w' => e = .returned (.tuple #[]) ∧ w = w' := by
  go_enter Try.func89, Try.ntmps89
  go_wp2_with fail
  refine wp_loop_rounds 1 ?_
  rw [rounds_succ]
  go_wp2_with fail
  go_end0
  exact ⟨rfl, rfl⟩

set_option maxRecDepth 100000 in
theorem stable_any {b0 X : Nat} {rs : List Int} {r : Int} {w : World} {B : Nat} {v : Value} {l : List Jb} (hc : CmpAt b0 X (qsOf rs) r w) (h16 : ∀ x ∈ rs, 1 ≤ x ∧ x ≤ 6) (hg : ∀ k, v.ownBlock = some k → k < b0) (hl : l.length < 20) (h : JbOwn w B v l) :
    Calls Try.prog 72 #[v, .int .i64 l.length, .func (.func 97) #[] #[.pointer (some ⟨X, 0, none⟩)]] w fun e w' =>
      e = .returned (.tuple #[]) ∧ JbOwn w' B v (order rs r l) ∧ Ch (fun k => v.ownBlock = some k) w w' := by
  have hi : Calls Try.prog 89 #[v, .int .i64 0, .int .i64 l.length, .func (.func 97) #[] #[.pointer (some ⟨X, 0, none⟩)]] w fun e w' =>
      e = .returned (.tuple #[]) ∧ JbOwn w' B v (order rs r l) ∧ Ch (fun k => v.ownBlock = some k) w w' := by
    rcases h.2 with ⟨rfl, h0⟩ | ⟨g, cap, cur, rfl, -⟩
    · obtain rfl : l = [] := List.eq_nil_of_length_eq_zero h0
      exact (insertion_none _ w).mono fun _ _ ⟨h1, h2⟩ => ⟨h1, by rw [← h2]; exact JbOwn.nil _ _, by rw [← h2]; exact Ch.refl _ _⟩
    · refine (insertion_any hc h16 (hg g rfl) rfl (by omega) h).mono fun e w' ⟨h1, h2, h3⟩ => ⟨h1, ?_, h3.mono fun k hk => by rw [hk]; rfl⟩
      unfold JbOwn; rw [order_len]; exact h2
  obtain ⟨a, c, rfl, -, -⟩ := h.arg
  have HI := Lib.hid hi
  have n1 : ¬ (20 : Int) ≤ (l.length : Int) := by omega
  have n2 : ¬ (20 : Int) < (l.length : Int) := by omega
  have d1 : decide ((20 : Int) ≤ (l.length : Int)) = false := by simp; omega
  have d2 : decide ((20 : Int) < (l.length : Int)) = false := by simp; omega
  clear hi h hc hg hl
  go_enter Try.func72, Try.ntmps72
  go_wp2_with fail
  refine wp_loop_rounds 1 ?_
  rw [rounds_succ]
  go_wp2_with fail
  refine HI.out.mono ?_
  rintro _ w1 ⟨rfl, o1, c1⟩
  have O1 := Lib.hid o1; have C1 := Lib.hid c1
  clear o1 c1
  go_wp2_with fail
  refine wp_loop_rounds 1 ?_
  rw [rounds_succ]
  go_wp2_with fail
  go_end0
  exact ⟨rfl, O1.out, C1.out⟩
theorem sortStable_any {b0 X : Nat} {rs : List Int} {r : Int} {w : World} {B : Nat} {v : Value} {l : List Jb} (hc : CmpAt b0 X (qsOf rs) r w) (h16 : ∀ x ∈ rs, 1 ≤ x ∧ x ≤ 6) (hg : ∀ k, v.ownBlock = some k → k < b0) (hl : l.length < 20) (h : JbOwn w B v l) :
    Calls Try.prog 51 #[v, .func (.func 97) #[] #[.pointer (some ⟨X, 0, none⟩)]] w fun e w' =>
      e = .returned (.tuple #[]) ∧ JbOwn w' B v (order rs r l) ∧ Ch (fun k => v.ownBlock = some k) w w' := by
  have HI := Lib.hid (stable_any hc h16 hg hl h)
  obtain ⟨a, c, rfl, -, -⟩ := h.arg
  clear h hc hg hl
  go_enter Try.func51, Try.ntmps51
  go_wp2_with fail
  refine HI.out.mono ?_
  rintro _ w1 ⟨rfl, o1, c1⟩
  have O1 := Lib.hid o1; have C1 := Lib.hid c1
  clear o1 c1
  go_wp2_with fail
  go_end0
  exact ⟨rfl, O1.out, C1.out⟩

/-! ### a copy of a slice of jobs -/
def NewJobs (w : World) (l : List Jb) (e : Ending) (w' : World) : Prop := ∃ v, e = .returned v ∧ JbOwn w' w.heap.size v l ∧ Below w.heap.size w w'
set_option maxRecDepth 100000 in
set_option maxHeartbeats 1000000 in
theorem jClone_any (a : Option Addr) (c : Nat) (l : List Jb) (w : World) (h : JbA w a c l) (hl : l.length ≤ 1000000) : Calls Try.prog 50 #[.slice a l.length c] w (NewJobs w l) := by
  unfold NewJobs
  by_cases ha : a = none
  · subst ha
    by_cases hl0 : l = []
    · subst hl0
      have hq := fun (W : World) => Lib.run_eql_slice_nil (P := Try.prog) W 22 43 none 0 c 0 0 Try.underlying22
      clear h hl
      go_enter Try.func50, Try.ntmps50
      go_wp2_with fail
      go_ret
      exact ⟨_, rfl, JbOwn.nil _ _, Below.refl _ _⟩
    · obtain ⟨b, off, e, -⟩ := h.2.2 0 (List.length_pos_iff.2 hl0)
      cases e
  · obtain ⟨⟨g, off, fz⟩, rfl⟩ : ∃ x, a = some x := Option.ne_none_iff_exists'.1 ha
    have hq := fun (W : World) => Lib.run_eql_slice_nil (P := Try.prog) W 22 43 (some ⟨g, off, fz⟩) l.length c 0 0 Try.underlying22
    have HC := Lib.hid (show ∀ j u, (jbRow l)[j]? = some u → (w.alloc (.cells #[] 43)).cell? ((⟨g, off, fz⟩ : Addr).add j) = some u from fun j u hu => by
      have hj : j < l.length * 7 := by
        have := (List.getElem?_eq_some_iff.1 hu).1
        rwa [jbRow_length] at this
      have hi : j / 7 < l.length := by omega
      obtain ⟨b, o, e, hb, hc⟩ := h.2.2 (j / 7) hi
      injection e with e; injection e with e1 e2 e3; subst e1; subst e2; subst e3
      have hm := jbRow_at l (j / 7) (j % 7) hi (Nat.mod_lt _ (by decide))
      rw [show j / 7 * 7 + j % 7 = j by omega, hu] at hm
      refine cell_below (below_new _ _) ?_
      have hlt : j % 7 < 7 := Nat.mod_lt _ (by decide)
      have ea : ((⟨g, off, none⟩ : Addr).add j) = ⟨g, off + j / 7 * 7 + j % 7, none⟩ := by rw [Addr.add_lit]; congr 1; omega
      rw [ea]
      obtain ⟨h0, h1, h2, h3, h4, h5, h6⟩ := hc
      generalize j % 7 = t at *
      obtain rfl | rfl | rfl | rfl | rfl | rfl | rfl : t = 0 ∨ t = 1 ∨ t = 2 ∨ t = 3 ∨ t = 4 ∨ t = 5 ∨ t = 6 := by omega
      all_goals (simp only [jbCells, List.getElem?_cons_succ, List.getElem?_cons_zero, Option.some.injEq] at hm; subst hm; assumption))
    have HO := Lib.hid (World.ownsRow_made (base := w.heap.size) (e := 43) (size := 7) w #[] 0 (Nat.le_refl _) (by decide) rfl)
    obtain ⟨i0, hi, hz0, hz1, hz2⟩ := info_parts info_job
    have hrl := jbRow_length l
    have HR := Lib.hid hrl
    clear h hrl ha
    go_enter Try.func50, Try.ntmps50
    go_wp2_with (at_builtin; refine wpList_append_own _ rfl _ _ 22 rfl w.heap.size 43 i0 _ 7 56 Try.underlying22 hi hz0 hz1 hz2 rfl (by decide) _ _ _ rfl HO.out ⟨g, off, fz⟩ l.length c (jbRow l) rfl HR.out ?c1 ?c2 ?c3 ?c4 ?c5 ?_)
    case c1 => exact HC.out
    case c2 => exact fun u hu => jbRow_one u l hu
    case c3 => unfold maxLen; omega
    case c4 => omega
    case c5 => simp
    intro v' w3 hown' hgrow _
    have O3 := Lib.hid hown'
    have G3 := Lib.hid ((below_new w (.cells #[] 43)).grown hgrow (by simp) (fun k hk => by injection hk with hk; rw [← hk]; exact Nat.le_refl _))
    clear hown' hgrow hq
    go_wp2_with fail
    go_ret
    exact ⟨_, rfl, O3.out, G3.out⟩
end Go.Proofs.Ytjdhjlhcdpekbaa
