/-
  A calendar that is known by its pointer alone, while other memory is kept; on paper: what bookings made one after the other come to.
-/
import Derived.Test.YtngpkipblcihaaaFree
import Derived.Test.YtngpkipblcihaaaSh
import Derived.Test.YtngpkipblcihaaaBo
namespace Go.Proofs.Ytngpkipblcihaaa
open Go.RowKit Go.Shelf

theorem free_iff {K : Kal.Kal} {b : Kal.Bk} : Kal.free K b = true ↔ Kal.okB b = true ∧ ∀ x ∈ K b.tool.toNat, ¬ (x.s < b.e ∧ b.s < x.e) := by
  unfold Kal.free Kal.busy
  rw [Bool.and_eq_true]
  constructor
  · rintro ⟨h1, h2⟩
    have hb := Kal.okB_iff.1 h1
    refine ⟨h1, Kal.anyHits_false.1 ?_⟩
    have : decide (b.s < b.e) = true := by simp; omega
    rw [this, Bool.true_and] at h2
    simpa using h2
  · rintro ⟨h1, h2⟩
    refine ⟨h1, ?_⟩
    rw [Kal.anyHits_false.2 h2]; simp
theorem ins_count (p : Kal.Bk → Bool) (l : List Kal.Bk) (b : Kal.Bk) : (Kal.ins l b).countP p = l.countP p + if p b = true then 1 else 0 := by
  have h : l.countP p = (l.take (Kal.fb l b.s)).countP p + (l.drop (Kal.fb l b.s)).countP p := by rw [← List.countP_append, List.take_append_drop]
  unfold Kal.ins
  rw [List.countP_append, List.countP_cons, h]
  omega
theorem upTo_put (p : Kal.Bk → Bool) (K : Kal.Kal) (b : Kal.Bk) : ∀ k, (Kal.upTo (Kal.put K b) k).countP p = (Kal.upTo K k).countP p + if b.tool.toNat < k ∧ p b = true then 1 else 0
  | 0 => by simp [Kal.upTo]
  | k + 1 => by
    have ih := upTo_put p K b k
    rw [Kal.upTo_succ, Kal.upTo_succ, List.countP_append, List.countP_append, ih]
    unfold Kal.put
    by_cases e : k = b.tool.toNat
    · rw [if_pos e, ins_count]
      by_cases hp : p b = true
      · rw [if_neg (by omega), if_pos hp, if_pos ⟨by omega, hp⟩]; omega
      · rw [if_neg (by simp [hp]), if_neg hp, if_neg (by simp [hp])]; omega
    · rw [if_neg e]
      by_cases hp : p b = true
      · by_cases hk : b.tool.toNat < k
        · rw [if_pos ⟨hk, hp⟩, if_pos ⟨by omega, hp⟩]; omega
        · rw [if_neg (by omega), if_neg (by omega)]; omega
      · rw [if_neg (by simp [hp]), if_neg (by simp [hp])]; omega
theorem all_book (p : Kal.Bk → Bool) (K : Kal.Kal) (b : Kal.Bk) : (Kal.all (Kal.book K b)).countP p = (Kal.all K).countP p + if Kal.free K b = true ∧ p b = true then 1 else 0 := by
  unfold Kal.book
  by_cases hf : Kal.free K b = true
  · rw [if_pos hf]
    unfold Kal.all
    rw [upTo_put]
    have := Kal.okB_iff.1 (free_iff.1 hf).1
    by_cases hp : p b = true
    · rw [if_pos ⟨by omega, hp⟩, if_pos ⟨hf, hp⟩]
    · rw [if_neg (by simp [hp]), if_neg (by simp [hp])]
  · rw [if_neg hf, if_neg (by simp [hf])]; rfl
theorem len_book (K : Kal.Kal) (b : Kal.Bk) : (Kal.all (Kal.book K b)).length = (Kal.all K).length + if Kal.free K b = true then 1 else 0 := by
  have := all_book (fun _ => true) K b
  simpa using this
theorem upTo_drop (K : Kal.Kal) (o : Int) : ∀ k, Kal.upTo (Kal.drop K o) k = (Kal.upTo K k).filter (fun b => !decide (b.o = o))
  | 0 => by simp [Kal.upTo]
  | k + 1 => by rw [Kal.upTo_succ, Kal.upTo_succ, List.filter_append, upTo_drop K o k]; rfl
theorem owned_len (K : Kal.Kal) (o : Int) : (Kal.owned K o).length = (Kal.all K).countP (fun b => decide (b.o = o)) := by
  unfold Kal.owned; rw [List.countP_eq_length_filter]
theorem countO_is (K : Kal.Kal) (o : Int) : countO K o = ((Kal.owned K o).length : Int) := by
  have h := List.length_eq_countP_add_countP (fun b : Kal.Bk => decide (b.o = o)) (l := Kal.all K)
  have h2 : (Kal.all (Kal.drop K o)).length = (Kal.all K).countP (fun b => !decide (b.o = o)) := by unfold Kal.all; rw [upTo_drop, List.countP_eq_length_filter]
  have h3 : (Kal.all K).countP (fun b => !decide (b.o = o)) = (Kal.all K).countP (fun b => decide (¬ decide (b.o = o) = true)) := by congr 1; funext b; simp
  unfold countO
  rw [owned_len]; omega
theorem mem_put_old {K : Kal.Kal} {b x : Kal.Bk} {i : Nat} (h : x ∈ K i) : x ∈ Kal.book K b i := by
  unfold Kal.book; split
  · unfold Kal.put; split
    · exact Kal.mem_ins.2 (.inr h)
    · exact h
  · exact h
theorem mem_put_new {K : Kal.Kal} {b : Kal.Bk} (h : Kal.free K b = true) : b ∈ Kal.book K b b.tool.toNat := by
  unfold Kal.book; rw [if_pos h]; unfold Kal.put; rw [if_pos rfl]; exact Kal.mem_ins.2 (.inl rfl)
theorem ins_filter (p : Kal.Bk → Bool) (l : List Kal.Bk) (b : Kal.Bk) (h : p b = false) : (Kal.ins l b).filter p = l.filter p := by
  unfold Kal.ins
  rw [List.filter_append, List.filter_cons_of_neg (by simp [h]), ← List.filter_append, List.take_append_drop]
theorem drop_book (K : Kal.Kal) (b : Kal.Bk) (i : Nat) : Kal.drop (Kal.book K b) b.o i = Kal.drop K b.o i := by
  unfold Kal.book; split
  · unfold Kal.put Kal.drop
    simp only
    split
    · exact ins_filter _ _ _ (by simp)
    · rfl
  · rfl
theorem CalAt.size {B : Nat} {c : CalP} {K : Kal.Kal} {w : World} (h : CalAt B c K w) : B ≤ w.heap.size := Nat.le_trans h.lowC (Nat.le_of_lt (lt_of_block h.box))
theorem Moved.bel {B : Nat} {c c' : CalP} {K : Kal.Kal} {w w' W : World} (h : Moved B c c' K w w') (hw : Below W.heap.size W w) (hS : ∀ k, c.owns k → W.heap.size ≤ k) : Below W.heap.size W w' := hw.trans (h.ch.below hw.size hS)
theorem Book_at {B : Nat} {c : CalP} {K : Kal.Kal} {w : World} (C : Nat) (b : Kal.Bk) (h : CalAt B c K w) (hC : c.C = C) : Calls Try.prog 18 #[.pointer (some ⟨C, 0, none⟩), bkV b] w (BookPost B c K b w) := by
  have := Book_any b h h.size
  unfold CalP.ptr at this; rw [hC] at this; exact this
def CalIs (C : Nat) (K : Kal.Kal) (W w : World) : Prop := ∃ d : CalP, d.C = C ∧ CalAt W.heap.size d K w ∧ Below W.heap.size W w
theorem CalIs.below {C : Nat} {K : Kal.Kal} {W w w' : World} (h : CalIs C K W w) (hb : Below w.heap.size w w') : CalIs C K W w' := by
  obtain ⟨d, h1, h2, h3⟩ := h; exact ⟨d, h1, h2.below hb, below_step h3 hb⟩
theorem new_is (W : World) : Calls Try.prog 17 #[] W fun e w' => ∃ C, e = .returned (.pointer (some ⟨C, 0, none⟩)) ∧ CalIs C Kal.empty W w' :=
  (New_any W).mono fun _ _ ⟨h1, h2, h3⟩ => ⟨_, h1, newP W, rfl, h2, h3⟩
def CalOff (C : Nat) (K : Kal.Kal) (W : World) (S : Nat → Prop) (w : World) : Prop := ∃ d : CalP, d.C = C ∧ CalAt W.heap.size d K w ∧ Below W.heap.size W w ∧ ∀ k, d.owns k → ¬ S k
theorem CalIs.off {C : Nat} {K : Kal.Kal} {W w w' : World} (h : CalIs C K W w) (hb : Below w.heap.size w w') : CalOff C K W (fun k => w.heap.size ≤ k) w' := by
  obtain ⟨d, h1, h2, h3⟩ := h; exact ⟨d, h1, h2.below hb, below_step h3 hb, fun k hk => by have := (h2.lt k hk).2; omega⟩
theorem CalOff.below {C : Nat} {K : Kal.Kal} {W w w' : World} {S : Nat → Prop} (h : CalOff C K W S w) (hb : Below w.heap.size w w') : CalOff C K W S w' := by
  obtain ⟨d, h1, h2, h3, h4⟩ := h; exact ⟨d, h1, h2.below hb, below_step h3 hb, h4⟩
theorem CalOff.sub {C : Nat} {K : Kal.Kal} {W w : World} {S S' : Nat → Prop} (h : CalOff C K W S w) (hS : ∀ k, S' k → S k) : CalOff C K W S' w := by
  obtain ⟨d, h1, h2, h3, h4⟩ := h; exact ⟨d, h1, h2, h3, fun k hk hs => h4 k hk (hS k hs)⟩
theorem CalOff.more {C : Nat} {K : Kal.Kal} {W w w' : World} {S : Nat → Prop} (h : CalOff C K W S w) (hb : Below w.heap.size w w') : CalOff C K W (fun k => S k ∨ (w.heap.size ≤ k)) w' := by
  obtain ⟨d, h1, h2, h3, h4⟩ := h
  exact ⟨d, h1, h2.below hb, below_step h3 hb, fun k hk => by have := (h2.lt k hk).2; rintro (hs | hs); exact h4 k hk hs; omega⟩
theorem CalOff.ch {C : Nat} {K : Kal.Kal} {W w w' : World} {S T : Nat → Prop} (h : CalOff C K W S w) (hc : Ch T w w') (hT : ∀ k, T k → S k ∧ W.heap.size ≤ k) : CalOff C K W S w' := by
  obtain ⟨d, h1, h2, h3, h4⟩ := h
  exact ⟨d, h1, h2.ch hc (fun k hk ht => h4 k hk (hT k ht).1), h3.trans (hc.below h3.size (fun k hk => (hT k hk).2)), h4⟩
theorem moved_off {d d' : CalP} {C : Nat} {K K' : Kal.Kal} {W w w' : World} {S : Nat → Prop} (hm : Moved W.heap.size d d' K' w w') (h1 : d.C = C) (h2 : CalAt W.heap.size d K w) (h3 : Below W.heap.size W w) (h4 : ∀ k, d.owns k → ¬ S k) :
    CalOff C K' W (fun k => S k ∧ k < w.heap.size) w' ∧ Ch (fun k => ¬ S k ∧ W.heap.size ≤ k) w w' :=
  ⟨⟨d', hm.same.1.trans h1, hm.at_, hm.bel h3 (fun j hj => (h2.lt j hj).1), fun k hk hs => by
    rcases hm.owns k hk with h | h
    · exact h4 k h hs.1
    · omega⟩, hm.ch.mono (fun k hk => ⟨h4 k hk, (h2.lt k hk).1⟩)⟩
theorem book_off {C : Nat} {K : Kal.Kal} {W w : World} {S : Nat → Prop} (b : Kal.Bk) (h : CalOff C K W S w) : Calls Try.prog 18 #[.pointer (some ⟨C, 0, none⟩), bkV b] w fun e w' => e = .returned (.int .i64 (if Kal.free K b = true then 0 else 70)) ∧ CalOff C (Kal.book K b) W (fun k => S k ∧ k < w.heap.size) w' ∧ Ch (fun k => ¬ S k ∧ W.heap.size ≤ k) w w' := by
  obtain ⟨d, h1, h2, h3, h4⟩ := h
  exact (Book_at C b h2 h1).mono fun _ _ ⟨c', he, hm⟩ => ⟨he, moved_off hm h1 h2 h3 h4⟩
theorem free_off {C : Nat} {K : Kal.Kal} {W w : World} {S : Nat → Prop} (o : Int) (h : CalOff C K W S w) : Calls Try.prog 20 #[.pointer (some ⟨C, 0, none⟩), .int .i64 o] w fun e w' => e = .returned (.int .i64 ((Kal.owned K o).length : Int)) ∧ CalOff C (Kal.drop K o) W (fun k => S k ∧ k < w.heap.size) w' ∧ Ch (fun k => ¬ S k ∧ W.heap.size ≤ k) w w' := by
  obtain ⟨d, h1, h2, h3, h4⟩ := h
  have := Free_any o h2
  unfold CalP.ptr at this; rw [h1] at this
  exact this.mono fun _ _ ⟨c', he, hm⟩ => ⟨by rw [he, countO_is], moved_off hm h1 h2 h3 h4⟩
theorem CalOff.len {C : Nat} {K : Kal.Kal} {W w : World} {S : Nat → Prop} (h : CalOff C K W S w) : Calls Try.prog 21 #[.pointer (some ⟨C, 0, none⟩)] w fun e w' => e = .returned (.int .i64 ((Kal.all K).length : Int)) ∧ w = w' := by
  obtain ⟨d, h1, h2, h3, h4⟩ := h
  have := Len_any h2
  unfold CalP.ptr at this; rw [h1] at this; exact this

/-! ### the law's bookings, on paper -/
/-- A booking as the calendar has it. -/
def kb (x : Pl.Bk) : Kal.Bk := ⟨x.tool, x.s, x.e, x.o⟩
/-- What the first i bookings have come to. -/
structure BkInv (b : Kal.Bk) (L : List Pl.Bk) (i : Nat) (K : Kal.Kal) (n : Int) : Prop where
  mem : b ∈ K b.tool.toNat
  cnt : ((Kal.owned K 4).length : Int) = n
  le : 0 ≤ n ∧ n ≤ i
  drop : (Kal.all (Kal.drop K 4)).length = 1
  apart : n = i → ∀ m (h : m < L.length), m < i → L[m].tool = b.tool → ¬ (b.s < L[m].e ∧ L[m].s < b.e)
theorem free_empty {b : Kal.Bk} (h : Kal.okB b = true) : Kal.free Kal.empty b = true := free_iff.2 ⟨h, fun x hx => by cases hx⟩
theorem all_empty : Kal.all Kal.empty = [] := by unfold Kal.all Kal.upTo Kal.empty; simp
theorem BkInv.start {b : Kal.Bk} (h : Kal.okB b = true) (h9 : b.o = 9) (L : List Pl.Bk) : BkInv b L 0 (Kal.book Kal.empty b) 0 := by
  have hf := free_empty h
  refine ⟨mem_put_new hf, ?_, ⟨Int.le_refl _, Int.le_refl _⟩, ?_, fun _ m _ hm => absurd hm (Nat.not_lt_zero _)⟩
  · rw [owned_len, all_book, all_empty]; simp [h9]
  · show (Kal.upTo (Kal.drop _ 4) 60).length = 1
    rw [upTo_drop, ← List.countP_eq_length_filter]
    show List.countP _ (Kal.all _) = 1
    rw [all_book, all_empty]; simp [h9, hf]
theorem BkInv.step {b : Kal.Bk} {L : List Pl.Bk} {i : Nat} {K : Kal.Kal} {n : Int} (h : BkInv b L i K n) (hi : i < L.length) (h4 : L[i].o = 4) : BkInv b L (i + 1) (Kal.book K (kb L[i])) (n + if Kal.free K (kb L[i]) = true then 1 else 0) := by
  have hc := h.cnt; have hl := h.le
  have ho : (kb L[i]).o = 4 := h4
  refine ⟨mem_put_old h.mem, ?_, ?_, ?_, ?_⟩
  · rw [owned_len, all_book, Int.natCast_add]
    rw [owned_len] at hc
    rw [hc]
    by_cases hf : Kal.free K (kb L[i]) = true <;> simp [hf, ho]
  · split <;> omega
  · have e : Kal.drop (Kal.book K (kb L[i])) 4 = Kal.drop K 4 := by
      funext j
      have := drop_book K (kb L[i]) j
      rw [ho] at this; exact this
    rw [e]; exact h.drop
  · intro hn m hm hmi ht
    by_cases hf : Kal.free K (kb L[i]) = true
    · rw [if_pos hf] at hn
      by_cases e : m = i
      · subst e
        have := (free_iff.1 hf).2 b (by have := h.mem; rw [← ht] at this; exact this)
        exact this
      · exact h.apart (by omega) m hm (by omega) ht
    · rw [if_neg hf] at hn; omega
/-- A visit that lies in a booking. -/
def Cov (x : Pl.Bk) (v : Pl.Visit) : Prop := x.tool = v.tool ∧ x.s ≤ v.start ∧ x.e ≥ v.fin
theorem books_owner {l : List Pl.Stage} {o : Int} : ∀ x ∈ Pl.books l o, x.o = o := by
  intro x hx
  obtain ⟨s, _, hx⟩ := List.mem_flatMap.1 hx
  simp only [List.mem_cons, List.not_mem_nil, or_false] at hx
  rcases hx with rfl | rfl <;> rfl
theorem cov_all {p : Pl.Plan} {s : Pl.Scen} {V : List Pl.Visit} {i k : Nat} (hp : Pl.Poss p s) (h : Pl.Steps p s i V) (hi : i ≤ p.st.length) (hk : k < i) (hV : k < V.length) : ∃ m, ∃ hm : m < (Pl.books p.st 4).length, Cov (Pl.books p.st 4)[m] V[k] := by
  have hkl : k < p.st.length := by omega
  obtain ⟨-, h2, h3⟩ := Pl.done_of hp hkl (h.each k hkl hk)
  have hd := hp.dur k hkl
  rw [Pl.nth_lt hV] at h2 h3
  have key : ∃ x ∈ Pl.books p.st 4, Cov x V[k] := by
    rcases h3 with ⟨e1, e2, -⟩ | ⟨e1, e2⟩
    · refine ⟨⟨p.st[k].m.tool, p.st[k].m.start, p.st[k].m.start + p.st[k].mx, 4⟩, List.mem_flatMap.2 ⟨p.st[k], List.getElem_mem hkl, by simp⟩, e1.symm, ?_, ?_⟩
      · show p.st[k].m.start ≤ _; omega
      · show p.st[k].m.start + p.st[k].mx ≥ _; omega
    · refine ⟨⟨p.st[k].s.tool, p.st[k].s.start, p.st[k].s.start + p.st[k].mx, 4⟩, List.mem_flatMap.2 ⟨p.st[k], List.getElem_mem hkl, by simp⟩, e1.symm, ?_, ?_⟩
      · show p.st[k].s.start ≤ _; omega
      · show p.st[k].s.start + p.st[k].mx ≥ _; omega
  obtain ⟨x, hx, hc⟩ := key
  obtain ⟨m, hm, rfl⟩ := List.mem_iff_getElem.1 hx
  exact ⟨m, hm, hc⟩
/-- Where all were booked, nothing of somebody else lies beside a visit. -/
theorem cov_apart {b : Kal.Bk} {L : List Pl.Bk} {K : Kal.Kal} {n : Int} (h : BkInv b L L.length K n) (hn : n = (L.length : Int)) {m : Nat} (hm : m < L.length) {v : Pl.Visit} (hc : Cov L[m] v) (ht : b.tool = v.tool) : ¬ (b.s < v.fin ∧ v.start < b.e) := by
  obtain ⟨h1, h2, h3⟩ := hc
  have := h.apart hn m hm hm (h1.trans ht.symm)
  omega

/-! ### the law's memory -/
def KeepS (nb : Nat) (aa : Option Addr) (k : Nat) : Prop := k = nb ∨ ∃ x, aa = some x ∧ k = x.block
structure BkM (W V : World) (C np ns nb : Nat) (K : Kal.Kal) (q : PlanP) (r : ScenP) (b : Kal.Bk) (aa : Option Addr) (ac : Nat) (L : List Pl.Bk) (w : World) : Prop where
  cal : CalOff C K V (KeepS nb aa) w
  p : PlIs V.heap.size np q w
  s : ScIs V.heap.size ns r w
  bb : w.heap[nb]? = some (bkObj b)
  row : RowA pbCells 4 w aa ac L
  bel : Below W.heap.size W w
  lo : W.heap.size ≤ V.heap.size
  lt : ∀ k, KeepS nb aa k → k < w.heap.size
theorem BkM.below {W V : World} {C np ns nb : Nat} {K : Kal.Kal} {q : PlanP} {r : ScenP} {b : Kal.Bk} {aa : Option Addr} {ac : Nat} {L : List Pl.Bk} {w w' : World} (h : BkM W V C np ns nb K q r b aa ac L w) (hb : Below w.heap.size w w') : BkM W V C np ns nb K q r b aa ac L w' :=
  ⟨h.cal.below hb, h.p.below hb, h.s.below hb, box_below h.bb hb, h.row.below hb, below_step h.bel hb, h.lo, fun k hk => Nat.lt_of_lt_of_le (h.lt k hk) hb.size⟩
theorem BkM.ch {W V : World} {C np ns nb : Nat} {K K' : Kal.Kal} {q : PlanP} {r : ScenP} {b : Kal.Bk} {aa : Option Addr} {ac : Nat} {L : List Pl.Bk} {w w' : World} (h : BkM W V C np ns nb K q r b aa ac L w)
    (h1 : CalOff C K' V (fun k => KeepS nb aa k ∧ k < w.heap.size) w') (h2 : Ch (fun k => ¬ KeepS nb aa k ∧ V.heap.size ≤ k) w w') : BkM W V C np ns nb K' q r b aa ac L w' :=
  ⟨h1.sub (fun k hk => ⟨hk, h.lt k hk⟩), h.p.ch h2 (fun _ hk => hk.2), h.s.ch h2 (fun _ hk => hk.2), (h2.block _ (lt_of_block h.bb) (fun e => e.1 (.inl rfl))).trans h.bb,
    h.row.ch h2 (fun x hx e => e.1 (.inr ⟨x, hx, rfl⟩)), h.bel.trans (h2.below h.bel.size (fun _ hk => Nat.le_trans h.lo hk.2)), h.lo, fun k hk => Nat.lt_of_lt_of_le (h.lt k hk) h2.size⟩
theorem BkM.book {W V : World} {C np ns nb : Nat} {K : Kal.Kal} {q : PlanP} {r : ScenP} {b : Kal.Bk} {aa : Option Addr} {ac : Nat} {L : List Pl.Bk} {w : World} (h : BkM W V C np ns nb K q r b aa ac L w) (x : Kal.Bk) :
    Calls Try.prog 18 #[.pointer (some ⟨C, 0, none⟩), bkV x] w fun e w' => e = .returned (.int .i64 (if Kal.free K x = true then 0 else 70)) ∧ BkM W V C np ns nb (Kal.book K x) q r b aa ac L w' :=
  (book_off x h.cal).mono fun _ _ ⟨h1, h2, h3⟩ => ⟨h1, h.ch h2 h3⟩
theorem BkM.free {W V : World} {C np ns nb : Nat} {K : Kal.Kal} {q : PlanP} {r : ScenP} {b : Kal.Bk} {aa : Option Addr} {ac : Nat} {L : List Pl.Bk} {w : World} (h : BkM W V C np ns nb K q r b aa ac L w) (o : Int) :
    Calls Try.prog 20 #[.pointer (some ⟨C, 0, none⟩), .int .i64 o] w fun e w' => e = .returned (.int .i64 ((Kal.owned K o).length : Int)) ∧ BkM W V C np ns nb (Kal.drop K o) q r b aa ac L w' :=
  (free_off o h.cal).mono fun _ _ ⟨h1, h2, h3⟩ => ⟨h1, h.ch h2 h3⟩
end Go.Proofs.Ytngpkipblcihaaa
