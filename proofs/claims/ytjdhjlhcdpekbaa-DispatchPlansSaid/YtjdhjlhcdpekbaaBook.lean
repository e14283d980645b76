/-
  The contract of Book.
-/
import Derived.Test.YtjdhjlhcdpekbaaInsert
import Derived.Deep.RegionHeld3
namespace Go.Proofs.Ytjdhjlhcdpekbaa
open Go.RowKit Go.Shelf

theorem BkOwn.of_heap {w v : World} {B : Nat} {x : Value} {l : List Kal.Bk} (h : BkOwn w B x l) (e : v.heap = w.heap) : BkOwn v B x l := by
  unfold BkOwn World.ownsRow at *; rw [e]; exact h
theorem CalAt.of_heap {w v : World} {B : Nat} {c : CalP} {K : Kal.Kal} (h : CalAt B c K w) (e : v.heap = w.heap) : CalAt B c K v :=
  ⟨by rw [e]; exact h.box, by rw [e]; exact h.tab, fun i hi => (h.rows i hi).of_heap e, h.apart, h.ok, h.lowC, h.lowT⟩
/-- The calendar with another row. -/
abbrev CalP.set (c : CalP) (i : Nat) (x : Value) : CalP := ⟨c.C, c.T, fun j => if j = i then x else c.V j⟩
theorem tabCells_set (V : Nat → Value) (i : Nat) (x : Value) : (tabCells V).setIfInBounds i x = tabCells (fun j => if j = i then x else V j) := by
  apply Array.ext
  · simp [tabCells]
  · intro j h1 h2
    have hj : j < (tabCells V).size := by simpa using h1
    rw [Array.getElem_setIfInBounds hj]
    simp only [tabCells, Array.getElem_ofFn]
    by_cases h : i = j
    · subst h; simp
    · rw [if_neg h, if_neg (fun e => h e.symm)]
/-- A row of the calendar has been changed, and its slice is stored. -/
theorem CalAt.store {B : Nat} {c : CalP} {K K' : Kal.Kal} {w w2 : World} {i : Nat} {x : Value} (h : CalAt B c K w) (hi : i < 60) (hK : ∀ j, j < 60 → j ≠ i → K' j = K j) (hok : Kal.Ok K') (ho : BkOwn w2 B x (K' i))
    (hc : Ch (fun k => (c.V i).ownBlock = some k) w w2) (hb : ∀ k, x.ownBlock = some k → (c.V i).ownBlock = some k ∨ w.heap.size ≤ k) : Moved B c (c.set i x) K' w (w2.setCell ⟨c.T, i, none⟩ x) := by
  have far : ∀ k, c.owns k → (c.V i).ownBlock ≠ some k → w2.heap[k]? = w.heap[k]? := fun k hk hn => hc.block k (h.lt k hk).2 hn
  have hT2 : w2.heap[c.T]? = some (.cells (tabCells c.V) 111) := (far c.T (.inr (.inl rfl)) (fun e => (h.row_ne hi e).2 rfl)).trans h.tab
  have hC2 : w2.heap[c.C]? = some (.cells #[.pointer (some ⟨c.T, 0, none⟩)] 101) := (far c.C (.inl rfl) (fun e => (h.row_ne hi e).1 rfl)).trans h.box
  have hset : Ch (fun k => k = c.T) w2 (w2.setCell ⟨c.T, i, none⟩ x) := Ch.grown (grown_set (w := w2) c.T i x) (fun k hk => by injection hk with hk; exact hk.symm)
  refine ⟨⟨?_, ?_, fun j hj => ?_, fun j j' k hj hj' h1 h2 => ?_, hok, h.lowC, h.lowT⟩, ⟨rfl, rfl⟩, ?_, fun k hk => ?_⟩
  · exact (hset.block _ (lt_of_block hC2) h.ne).trans hC2
  · rw [block_set hT2, tabCells_set]
  · by_cases hji : j = i
    · subst hji
      simp only [if_true]
      exact own_ch ho hset (fun k hk e => by
        obtain ⟨cs, hcs⟩ := own_block ho hk
        rw [e, hT2] at hcs; injection hcs with hcs; injection hcs with _ hcs; exact absurd hcs (by decide))
    · simp only [if_neg hji]
      rw [hK j hj hji]
      refine own_ch (own_ch (h.rows j hj) hc (fun k hk e => hji (h.apart j i k hj hi hk e))) hset (fun k hk e => ?_)
      exact (h.row_ne hj hk).2 e
  · by_cases e1 : j = i <;> by_cases e2 : j' = i
    · rw [e1, e2]
    · subst e1
      simp only [if_true, if_neg e2] at h1 h2
      rcases hb k h1 with h3 | h3
      · exact absurd (h.apart j' j k hj' hi h2 h3) e2
      · have := (h.lt k (.inr (.inr ⟨j', hj', h2⟩))).2; omega
    · subst e2
      simp only [if_true, if_neg e1] at h1 h2
      rcases hb k h2 with h3 | h3
      · exact absurd (h.apart j j' k hj hi h1 h3) e1
      · have := (h.lt k (.inr (.inr ⟨j, hj, h1⟩))).2; omega
    · simp only [if_neg e1, if_neg e2] at h1 h2
      exact h.apart j j' k hj hj' h1 h2
  · refine (hc.mono (S' := c.owns) (fun k hk => .inr (.inr ⟨i, hi, hk⟩))).trans hset (fun k hk e => .inr (.inl e))
  · rcases hk with rfl | rfl | ⟨j, hj, hk⟩
    · exact .inl (.inl rfl)
    · exact .inl (.inr (.inl rfl))
    · by_cases hji : j = i
      · subst hji
        simp only [if_true] at hk
        rcases hb k hk with h3 | h3
        · exact .inl (.inr (.inr ⟨j, hj, h3⟩))
        · exact .inr h3
      · simp only [if_neg hji] at hk
        exact .inl (.inr (.inr ⟨j, hj, hk⟩))

/-- What Book answers. -/
def BookPost (B : Nat) (c : CalP) (K : Kal.Kal) (b : Kal.Bk) (w : World) (e : Ending) (w' : World) : Prop := ∃ c', e = .returned (.int .i64 (if Kal.free K b = true then 0 else 70)) ∧ Moved B c c' (Kal.book K b) w w'
theorem BookPost.no {B : Nat} {c : CalP} {K : Kal.Kal} {b : Kal.Bk} {w w' : World} (hf : Kal.free K b = false) (h : CalAt B c K w) (hb : Below w.heap.size w w') : BookPost B c K b w (.returned (.int .i64 70)) w' :=
  ⟨c, by rw [hf]; rfl, by rw [show Kal.book K b = K by unfold Kal.book; rw [hf]; rfl]; exact Moved.refl h hb⟩
theorem BookPost.yes {B : Nat} {c c' : CalP} {K : Kal.Kal} {b : Kal.Bk} {w w' : World} (hf : Kal.free K b = true) (h : Moved B c c' (Kal.put K b) w w') : BookPost B c K b w (.returned (.int .i64 0)) w' :=
  ⟨c', by rw [hf]; rfl, by rw [show Kal.book K b = Kal.put K b by unfold Kal.book; rw [hf]; rfl]; exact h⟩
theorem put_at {K : Kal.Kal} {b : Kal.Bk} {i : Nat} (hi : b.tool = i) : Kal.put K b i = Kal.ins (K i) b ∧ ∀ j, j ≠ i → Kal.put K b j = K j := by
  unfold Kal.put
  rw [hi]
  simp only [Int.toNat_natCast]
  exact ⟨by rw [if_pos trivial], fun j hj => by rw [if_neg hj]⟩
theorem okB_tool {b : Kal.Bk} (h : Kal.okB b = true) : Kal.isTool b.tool = true := by
  have := Kal.okB_iff.1 h; unfold Kal.isTool; simp; omega
/-- The booking in its box. -/
abbrev bkObj (b : Kal.Bk) : Obj := .cells #[.int .i64 b.tool, .int .i64 b.s, .int .i64 b.e, .int .i64 b.o] 36
structure BkBox (b : Kal.Bk) (X : Nat) (w : World) : Prop where
  a0 : w.cell? ⟨X, 0, none⟩ = some (.int .i64 b.tool)
  a1 : w.cell? ⟨X, 1, none⟩ = some (.int .i64 b.s)
  a2 : w.cell? ⟨X, 2, none⟩ = some (.int .i64 b.e)
  a3 : w.cell? ⟨X, 3, none⟩ = some (.int .i64 b.o)
theorem BkBox.of {b : Kal.Bk} {X : Nat} {w : World} (h : w.heap[X]? = some (bkObj b)) : BkBox b X w := ⟨box_cell h 0 _ rfl, box_cell h 1 _ rfl, box_cell h 2 _ rfl, box_cell h 3 _ rfl⟩
theorem Book_nil (b : Kal.Bk) (w : World) : Calls Try.prog 33 #[.pointer none, bkV b] w fun e w' => e = .returned (.int .i64 1) ∧ Below w.heap.size w w' := by
  go_enter Try.func33, Try.ntmps33
  go_wp2_with fail
  refine (isNil_nil _).mono ?_; rintro _ w1 ⟨rfl, rfl⟩
  go_wp2_with fail
  go_ret
  exact ⟨rfl, below_new _ _⟩
set_option maxRecDepth 100000 in
theorem Book_bad {B : Nat} {c : CalP} {K : Kal.Kal} {w : World} (b : Kal.Bk) (h : CalAt B c K w) (hv : Kal.okB b = false) : Calls Try.prog 33 #[c.ptr, bkV b] w (BookPost B c K b w) := by
  have hf : Kal.free K b = false := by unfold Kal.free; rw [hv]; rfl
  have H1 := h.below (below_new w (bkObj b))
  have HN := Lib.hid (isNil_no H1)
  have HV := isValid_any b
  rw [hv] at HV
  have HV := Lib.hid (HV (w.alloc (bkObj b)))
  have HB := Lib.hid (below_new w (bkObj b))
  have H := Lib.hid h
  have HF := Lib.hid hf
  clear h H1 hv hf
  go_enter Try.func33, Try.ntmps33
  go_wp2_with fail
  refine HN.out.mono ?_; rintro _ w1 ⟨rfl, rfl⟩
  go_wp2_with fail
  refine HV.out.mono ?_; rintro _ w1 ⟨rfl, g1⟩
  have G1 := Lib.hid (below_step HB.out g1); clear g1
  go_wp2_with fail
  go_ret
  exact BookPost.no HF.out H.out G1.out
set_option maxRecDepth 100000 in
theorem Book_busy {B : Nat} {c : CalP} {K : Kal.Kal} {w : World} (b : Kal.Bk) (h : CalAt B c K w) (hv : Kal.okB b = true) (hb : Kal.busy (K b.tool.toNat) b.s b.e = true) : Calls Try.prog 33 #[c.ptr, bkV b] w (BookPost B c K b w) := by
  have hf : Kal.free K b = false := by unfold Kal.free; rw [hb]; simp
  have hbk : busyK K b.tool b.s b.e = true := by unfold busyK; rw [hb]; have := okB_tool hv; rw [this]; rfl
  have H1 := h.below (below_new w (bkObj b))
  have HN := Lib.hid (isNil_no H1)
  have HV := isValid_any b
  rw [hv] at HV
  have HV := Lib.hid (HV (w.alloc (bkObj b)))
  have HB := Lib.hid (below_new w (bkObj b))
  have HS := Lib.hid (fun (v : World) (g : Below (w.alloc (bkObj b)).heap.size (w.alloc (bkObj b)) v) => by have := Busy_any b.tool b.s b.e (H1.below g); rw [hbk] at this; exact this)
  have HX := Lib.hid (fun (v : World) (g : Below (w.alloc (bkObj b)).heap.size (w.alloc (bkObj b)) v) => BkBox.of (b := b) ((g.block w.heap.size (by simp)).trans (heap_alloc_new w _)))
  have H := Lib.hid h
  have HF := Lib.hid hf
  clear h H1 hv hf hb hbk
  go_enter Try.func33, Try.ntmps33
  go_wp2_with fail
  refine HN.out.mono ?_; rintro _ w1 ⟨rfl, rfl⟩
  go_wp2_with fail
  refine HV.out.mono ?_; rintro _ w1 ⟨rfl, g1⟩
  obtain ⟨a0, a1, a2, a3⟩ := HX.out w1 g1
  have G1 := Lib.hid g1; clear g1
  go_wp2_with fail
  refine (HS.out w1 G1.out).mono ?_; rintro _ w2 ⟨rfl, g2⟩
  have G2 := Lib.hid (below_step (below_step HB.out G1.out) g2); clear g2
  go_wp2_with fail
  go_ret
  exact BookPost.no HF.out H.out G2.out
theorem BkOwn.form {w : World} {B : Nat} {x : Value} {l : List Kal.Bk} (h : BkOwn w B x l) : ∃ a m, x = .slice a l.length m ∧ BkA w a m l := by
  obtain ⟨a, m, e, h1, _⟩ := h.arg
  exact ⟨a, m, e, h1⟩
/-- What stands in the loads of the last statement. -/
structure BS (b : Kal.Bk) (c : CalP) (v : Value) (X i : Nat) (w : World) : Prop where
  bx : w.heap[X]? = some (bkObj b)
  cx : w.heap[c.C]? = some (.cells #[.pointer (some ⟨c.T, 0, none⟩)] 101)
theorem BS.ch {b : Kal.Bk} {c : CalP} {v : Value} {X i : Nat} {w w' : World} {S : Nat → Prop} (h : BS b c v X i w) (hc : Ch S w w') (hS : ∀ k, k = X ∨ k = c.C → ¬ S k) : BS b c v X i w' :=
  ⟨(hc.block _ (lt_of_block h.bx) (hS _ (.inl rfl))).trans h.bx, (hc.block _ (lt_of_block h.cx) (hS _ (.inr rfl))).trans h.cx⟩
set_option maxRecDepth 100000 in
set_option maxHeartbeats 1000000 in
theorem Book_free {B : Nat} {c : CalP} {K : Kal.Kal} {w : World} (b : Kal.Bk) (h : CalAt B c K w) (hB : B ≤ w.heap.size) (hv : Kal.okB b = true) (hb : Kal.busy (K b.tool.toNat) b.s b.e = false) : Calls Try.prog 33 #[c.ptr, bkV b] w (BookPost B c K b w) := by
  have hf : Kal.free K b = true := by unfold Kal.free; rw [hb, hv]; simp
  have hbk : busyK K b.tool b.s b.e = false := by unfold busyK; rw [hb]; simp
  obtain ⟨i, hi⟩ : ∃ i : Nat, b.tool = i := ⟨b.tool.toNat, by have := Kal.okB_iff.1 hv; omega⟩
  have hi6 : i < 60 := by have := Kal.okB_iff.1 hv; omega
  have H1 := h.below (below_new w (bkObj b))
  have HN := Lib.hid (isNil_no H1)
  have HV := isValid_any b
  rw [hv] at HV
  have HV := Lib.hid (HV (w.alloc (bkObj b)))
  have HB := Lib.hid (below_new w (bkObj b))
  have HS := Lib.hid (fun (v : World) (g : Below (w.alloc (bkObj b)).heap.size (w.alloc (bkObj b)) v) => by have := Busy_any b.tool b.s b.e (H1.below g); rw [hbk] at this; exact this)
  have HXB := Lib.hid (fun (v : World) (g : Below (w.alloc (bkObj b)).heap.size (w.alloc (bkObj b)) v) => (g.block w.heap.size (by simp)).trans (heap_alloc_new w (bkObj b)))
  have H := Lib.hid h; have HF := Lib.hid hf; have HI := Lib.hid hi
  clear h H1 hv hf hb hbk hi
  go_enter Try.func33, Try.ntmps33
  go_wp2_with fail
  refine HN.out.mono ?_; rintro _ w1 ⟨rfl, rfl⟩
  go_wp2_with fail
  refine HV.out.mono ?_; rintro _ w1 ⟨rfl, g1⟩
  obtain ⟨a0, a1, a2, a3⟩ := BkBox.of (b := b) (HXB.out w1 g1)
  have G1 := Lib.hid g1; clear g1
  go_wp2_with fail
  refine (HS.out w1 G1.out).mono ?_; rintro _ w2 ⟨rfl, g2⟩
  have HX2 := Lib.hid (HXB.out w2 (below_step G1.out g2))
  have HW2 := Lib.hid (below_step (below_step HB.out G1.out) g2)
  have H2 := Lib.hid (H.out.below HW2.out)
  obtain ⟨ax0, a1, a2, a3⟩ := BkBox.of (b := b) HX2.out
  have a0 : w2.cell? ⟨w.heap.size, 0, none⟩ = some (.int .i64 (i : Int)) := by rw [ax0, HI.out]
  obtain ⟨am, m, e1, hr⟩ := H2.out.row hi6
  have c0 := H2.out.cells.1
  have c1 := (H2.out.cells.2 i hi6).1
  rw [e1] at c1
  have HE := Lib.hid e1
  have t0 : (0 : Int) ≤ i := by omega
  have t1 : (i : Int) < 60 := by omega
  clear g2 ax0 e1 hr
  go_wp2_with fail
  go_quiet (fail)
  have hle := H2.out.ok.len hi6
  have hk := Kal.fb_le (K i) b.s
  have HBF := Lib.hid (show ∀ v : World, v.heap = w2.heap → Calls Try.prog 60 #[.slice am (K i).length m, .int .i64 b.s] v fun e w' => e = .returned (.int .i64 (Kal.fb (K i) b.s : Int)) ∧ Below v.heap.size v w' from
    fun v hv => by
      obtain ⟨a', m', e', hr'⟩ := ((H2.out.rows i hi6).of_heap hv).form
      rw [HE.out] at e'; injection e' with e1 _ e2; subst e1; subst e2
      exact firstBehind_any (K i) am m b.s v hr' (H2.out.ok.srt i hi6) hle)
  have HIN := Lib.hid (show ∀ v v1 : World, v.heap = w2.heap → Below v.heap.size v v1 → Calls Try.prog 59 #[.slice am (K i).length m, .int .i64 (Kal.fb (K i) b.s : Int), .agg #[.int .i64 (i : Int), .int .i64 b.s, .int .i64 b.e, .int .i64 b.o]] v1 fun e w' => ∃ v', e = .returned v' ∧ BkOwn w' B v' (Kal.ins (K i) b) ∧ Ch (fun k => (c.V i).ownBlock = some k) v1 w' ∧ ∀ k, v'.ownBlock = some k → (c.V i).ownBlock = some k ∨ v1.heap.size ≤ k from
    fun v v1 hv hb => by
      have := insert_any _ (K i) b (Kal.fb (K i) b.s) B v1 (own_below ((H2.out.rows i hi6).of_heap hv) hb) hk hle (Nat.le_trans (Nat.le_trans hB (Nat.le_trans HW2.out.size (by rw [hv]; exact Nat.le_refl _))) hb.size)
      rw [HE.out] at this ⊢
      unfold bkV at this
      rw [HI.out] at this
      exact this)
  have HS0 := Lib.hid (show ∀ v : World, v.heap = w2.heap → BS b c .nilFunc w.heap.size i v from fun v hv => ⟨by rw [hv]; exact HX2.out, by rw [hv]; exact H2.out.box⟩)
  have HSC := Lib.hid (show ∀ v, BS b c .nilFunc w.heap.size i v → v.cell? ⟨c.C, 0, none⟩ = some (.pointer (some ⟨c.T, 0, none⟩)) ∧ v.cell? ⟨w.heap.size, 0, none⟩ = some (.int .i64 (i : Int)) ∧ v.cell? ⟨w.heap.size, 1, none⟩ = some (.int .i64 b.s) ∧ v.cell? ⟨w.heap.size, 2, none⟩ = some (.int .i64 b.e) ∧ v.cell? ⟨w.heap.size, 3, none⟩ = some (.int .i64 b.o) ∧ BS b c .nilFunc w.heap.size i v from
    fun v hv => ⟨box_cell hv.cx 0 _ rfl, by rw [← HI.out]; exact box_cell hv.bx 0 _ rfl, box_cell hv.bx 1 _ rfl, box_cell hv.bx 2 _ rfl, box_cell hv.bx 3 _ rfl, hv⟩)
  have HSB := Lib.hid (show ∀ v v1 : World, v.heap = w2.heap → Below v.heap.size v v1 → BS b c .nilFunc w.heap.size i v1 from fun v v1 hv g => (HS0.out v hv).ch (S := fun _ => False) (Ch.ofBelow g) (fun _ _ h => h))
  have HSI := Lib.hid (show ∀ v v1 v2 : World, v.heap = w2.heap → Below v.heap.size v v1 → Ch (fun k => (c.V i).ownBlock = some k) v1 v2 → BS b c .nilFunc w.heap.size i v2 from fun v v1 v2 hv g hc => (HSB.out v v1 hv g).ch hc (fun k hk e => by
    have h1 := H.out.row_ne hi6 e
    have h2 := ((H.out.rows i hi6).lt k e).2
    rcases hk with rfl | rfl
    · omega
    · exact h1.1 rfl))
  have HSS := Lib.hid (show ∀ (v2 : World) (x : Value), BS b c .nilFunc w.heap.size i v2 → BS b c .nilFunc w.heap.size i (v2.setCell ⟨c.T, i, none⟩ x) from fun v2 x hv => hv.ch (S := fun k => k = c.T) (Ch.grown (grown_set (w := v2) c.T i x) (fun k hk => by injection hk with hk; exact hk.symm)) (fun k hk e => by
    rcases hk with rfl | rfl
    · have := (H.out.lt c.T (.inr (.inl rfl))).2; omega
    · exact H.out.ne e))
  have HTC := Lib.hid (show ∀ v v1 v2 : World, v.heap = w2.heap → Below v.heap.size v v1 → Ch (fun k => (c.V i).ownBlock = some k) v1 v2 → v2.cell? ⟨c.T, i, none⟩ = some (c.V i) ∧ v2.frozen? ⟨c.T, i, none⟩ = false from fun v v1 v2 hv g hc => by
    have h1 := (H2.out.of_heap hv).below g
    have h2 := (hc.block c.T (lt_of_block h1.tab) (fun e => (h1.row_ne hi6 e).2 rfl)).trans h1.tab
    exact ⟨box_cell h2 i _ (tabCells_at _ _ hi6), box_fz h2 i⟩)
  clear hle hk
  go_wp2_with fail
  go_region_held3 (fun v => v.cell? ⟨c.C, 0, none⟩ = some (.pointer (some ⟨c.T, 0, none⟩)) ∧ v.cell? ⟨w.heap.size, 0, none⟩ = some (.int .i64 (i : Int)) ∧ v.cell? ⟨w.heap.size, 1, none⟩ = some (.int .i64 b.s) ∧ v.cell? ⟨w.heap.size, 2, none⟩ = some (.int .i64 b.e) ∧ v.cell? ⟨w.heap.size, 3, none⟩ = some (.int .i64 b.o) ∧ BS b c .nilFunc w.heap.size i v)
    (first | exact HSC.out _ (HSS.out _ _ (HSI.out _ _ _ (by rfl) g3 ch4)) | exact HSC.out _ (HSI.out _ _ _ (by rfl) g3 ch4) | exact HSC.out _ (HSB.out _ _ (by rfl) g3) | exact HSC.out _ (HS0.out _ (by rfl)))
    (first | (go_at_call 60; refine (HBF.out _ (by rfl)).mono ?_; rintro e v1 ⟨rfl, g3⟩) | (go_at_call 59; refine (HIN.out _ _ (by rfl) g3).mono ?_; rintro e v2 ⟨v', rfl, o4, ch4, ow4⟩; obtain ⟨a5, m5, rfl, -⟩ := o4.form; have hT := HTC.out _ _ _ (by rfl) g3 ch4; obtain ⟨hT1, hT2⟩ := hT))
  have HM := Lib.hid (show Moved B c (c.set i (.slice a5 (Kal.ins (K i) b).length m5)) (Kal.put K b) w (v2.setCell ⟨c.T, i, none⟩ (.slice a5 (Kal.ins (K i) b).length m5)) from by
    have p := put_at (K := K) HI.out
    have m1 : Moved B c c K w v1 := (Moved.refl H.out HW2.out).step (show Below w2.heap.size w2 v1 from ⟨g3.os, g3.tape, g3.output, g3.size, g3.block⟩)
    exact m1.trans (m1.at_.store hi6 (fun j _ hj => p.2 j hj) (H.out.ok.put HF.out) (by rw [p.1]; exact o4) ch4 ow4))
  clear hT1 hT2 o4 ch4 ow4 g3
  go_wp2_with fail
  go_ret
  exact BookPost.yes HF.out HM.out
theorem Book_any {B : Nat} {c : CalP} {K : Kal.Kal} {w : World} (b : Kal.Bk) (h : CalAt B c K w) (hB : B ≤ w.heap.size) : Calls Try.prog 33 #[c.ptr, bkV b] w (BookPost B c K b w) := by
  cases hv : Kal.okB b with
  | false => exact Book_bad b h hv
  | true =>
    cases hb : Kal.busy (K b.tool.toNat) b.s b.e with
    | true => exact Book_busy b h hv hb
    | false => exact Book_free b h hB hv hb
end Go.Proofs.Ytjdhjlhcdpekbaa

