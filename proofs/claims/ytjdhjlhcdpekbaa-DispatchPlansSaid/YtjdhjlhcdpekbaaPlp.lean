/-
  A plan's slots that are booked stay free of others: on paper; what the law keeps of memory.
-/
import Derived.Test.YtjdhjlhcdpekbaaAlls
import Derived.Test.YtjdhjlhcdpekbaaQpBh
import Derived.Test.YtjdhjlhcdpekbaaQpBd
namespace Go.Proofs.Ytjdhjlhcdpekbaa
open Go.RowKit Go.Shelf Go.Sort Dsp Pe

theorem JbA.ch3 {S : Nat → Prop} {w w' : World} {a : Option Addr} {c : Nat} {l : List Jb} (h : JbA w a c l) (hc : Ch S w w') (hS : ∀ x, a = some x → ¬ S x.block) : JbA w' a c l := by
  refine ⟨h.1, h.2.1, fun i hi => ?_⟩
  obtain ⟨b, off, rfl, h1, h2⟩ := h.2.2 i hi
  have hb := hS _ rfl
  exact ⟨b, off, rfl, Nat.lt_of_lt_of_le h1 hc.size, cell_ch hc h2.1 hb, cell_ch hc h2.2.1 hb, cell_ch hc h2.2.2.1 hb, cell_ch hc h2.2.2.2.1 hb, cell_ch hc h2.2.2.2.2.1 hb, cell_ch hc h2.2.2.2.2.2.1 hb, cell_ch hc h2.2.2.2.2.2.2 hb⟩
def kbO (x : Pe.Pl.Bk) : Kal.Bk := ⟨x.tool, x.s, x.e, x.o⟩
/-- A visit that lies in a booking. -/
def Cov (x : Pe.Pl.Bk) (v : Pe.Pl.Visit) : Prop := x.tool = v.tool ∧ x.s ≤ v.start ∧ x.e ≥ v.fin
theorem books_owner {l : List Pe.Pl.Stage} {o : Int} : ∀ x ∈ Pe.Pl.books l o, x.o = o := by
  intro x hx
  obtain ⟨s, _, hx⟩ := List.mem_flatMap.1 hx
  simp only [List.mem_cons, List.not_mem_nil, or_false] at hx
  rcases hx with rfl | rfl <;> rfl
theorem cov_all {p : Pe.Pl.Plan} {s : Pe.Pl.Scen} {V : List Pe.Pl.Visit} {i k : Nat} {o : Int} (hp : Pe.Pl.Poss p s) (h : Pe.Pl.Steps p s i V) (hi : i ≤ p.st.length) (hk : k < i) (hV : k < V.length) : ∃ m, ∃ hm : m < (Pe.Pl.books p.st o).length, Cov (Pe.Pl.books p.st o)[m] V[k] := by
  have hkl : k < p.st.length := by omega
  obtain ⟨-, h2, h3⟩ := Pe.Pl.done_of hp hkl (h.each k hkl hk)
  have hd := hp.dur k hkl
  rw [Pe.Pl.nth_lt hV] at h2 h3
  have key : ∃ x ∈ Pe.Pl.books p.st o, Cov x V[k] := by
    rcases h3 with ⟨e1, e2, -⟩ | ⟨e1, e2⟩
    · refine ⟨⟨p.st[k].m.tool, p.st[k].m.start, p.st[k].m.start + p.st[k].mx, o⟩, List.mem_flatMap.2 ⟨p.st[k], List.getElem_mem hkl, by simp⟩, e1.symm, ?_, ?_⟩
      · show p.st[k].m.start ≤ _; omega
      · show p.st[k].m.start + p.st[k].mx ≥ _; omega
    · refine ⟨⟨p.st[k].s.tool, p.st[k].s.start, p.st[k].s.start + p.st[k].mx, o⟩, List.mem_flatMap.2 ⟨p.st[k], List.getElem_mem hkl, by simp⟩, e1.symm, ?_, ?_⟩
      · show p.st[k].s.start ≤ _; omega
      · show p.st[k].s.start + p.st[k].mx ≥ _; omega
  obtain ⟨x, hx, hc⟩ := key
  obtain ⟨m, hm, rfl⟩ := List.mem_iff_getElem.1 hx
  exact ⟨m, hm, hc⟩
theorem srt_beside {A : List Kal.Bk} (h : Kal.Srt A) {x b : Kal.Bk} (hx : x ∈ A) (hb : b ∈ A) (hne : b.o ≠ x.o) : b.e ≤ x.s ∨ x.e ≤ b.s := by
  obtain ⟨i, hi, rfl⟩ := List.mem_iff_getElem.1 hx
  obtain ⟨k, hk, rfl⟩ := List.mem_iff_getElem.1 hb
  have hp := List.pairwise_iff_getElem.1 h.1
  rcases Nat.lt_trichotomy i k with h | h | h
  · exact .inr (hp i k hi hk h)
  · subst h; exact absurd rfl hne
  · exact .inl (hp k i hk hi h)
/-- All bookings of the list stand in the calendar. -/
def AllIn (L : List Pe.Pl.Bk) (k : Nat) (K : Kal.Kal) : Prop := ∀ m, ∀ h : m < L.length, m < k → kbO L[m] ∈ K L[m].tool.toNat
theorem AllIn.zero (L : List Pe.Pl.Bk) (K : Kal.Kal) : AllIn L 0 K := fun m _ h => absurd h (Nat.not_lt_zero m)
theorem AllIn.book {L : List Pe.Pl.Bk} {k : Nat} {K : Kal.Kal} (h : AllIn L k K) (b : Kal.Bk) : AllIn L k (Kal.book K b) := fun m hm hk => mem_put_old (h m hm hk)
theorem AllIn.step {L : List Pe.Pl.Bk} {k : Nat} {K : Kal.Kal} (h : AllIn L k K) (hk : k < L.length) (hf : Kal.free K (kbO L[k]) = true) : AllIn L (k + 1) (Kal.book K (kbO L[k])) := fun m hm hmk => by
  by_cases e : m = k
  · subst e; exact mem_put_new hf
  · exact mem_put_old (h m hm (by omega))
theorem no_clash {L : List Pe.Pl.Bk} {K : Kal.Kal} (hK : Kal.Ok K) (h : AllIn L L.length K) (ho : ∀ x ∈ L, x.o = 50) {v : Pe.Pl.Visit} (hc : ∃ m, ∃ hm : m < L.length, Cov L[m] v) :
    ∀ b ∈ (if Kal.isTool v.tool = true then K v.tool.toNat else []), b.o ≠ 50 → ¬ (b.s < v.fin ∧ v.start < b.e) := by
  intro b hb hne
  by_cases ht : Kal.isTool v.tool = true
  · rw [if_pos ht] at hb
    obtain ⟨m, hm, h1, h2, h3⟩ := hc
    have hx := h m hm hm
    rw [h1] at hx
    have h50 := ho _ (List.getElem_mem hm)
    have ht60 : v.tool.toNat < 60 := by unfold Kal.isTool at ht; simp at ht; omega
    have := srt_beside (hK.srt _ ht60) hx hb (by show b.o ≠ L[m].o; rw [h50]; exact hne)
    have e1 : (kbO L[m]).s = L[m].s := rfl
    have e2 : (kbO L[m]).e = L[m].e := rfl
    rw [e1, e2] at this
    omega
  · rw [if_neg ht] at hb; cases hb

/-- The law's memory: the calendar, the plan and the scenario in their boxes; the blocks S are not the calendar's. -/
structure PkM (W V : World) (C np ns : Nat) (K : Kal.Kal) (q : Pe.PlanP) (r : Pe.ScenP) (S : Nat → Prop) (w : World) : Prop where
  cal : CalOff C K V S w
  p : Pe.PlIs V.heap.size np q w
  s : Pe.ScIs V.heap.size ns r w
  bel : Below W.heap.size W w
  lo : W.heap.size ≤ V.heap.size
  lt : ∀ k, S k → k < w.heap.size
theorem PkM.below {W V : World} {C np ns : Nat} {K : Kal.Kal} {q : Pe.PlanP} {r : Pe.ScenP} {S : Nat → Prop} {w w' : World} (h : PkM W V C np ns K q r S w) (hb : Below w.heap.size w w') : PkM W V C np ns K q r S w' :=
  ⟨h.cal.below hb, h.p.below hb, h.s.below hb, below_step h.bel hb, h.lo, fun k hk => Nat.lt_of_lt_of_le (h.lt k hk) hb.size⟩
/-- All that has been made since keeps off the calendar, too. -/
theorem PkM.more {W V : World} {C np ns : Nat} {K : Kal.Kal} {q : Pe.PlanP} {r : Pe.ScenP} {S : Nat → Prop} {w w' : World} (h : PkM W V C np ns K q r S w) (hb : Below w.heap.size w w') : PkM W V C np ns K q r (fun k => S k ∨ (w.heap.size ≤ k ∧ k < w'.heap.size)) w' :=
  ⟨(h.cal.more hb).sub (fun k hk => hk.imp id (fun h => h.1)), h.p.below hb, h.s.below hb, below_step h.bel hb, h.lo, fun k hk => by
    rcases hk with hk | hk
    · exact Nat.lt_of_lt_of_le (h.lt k hk) hb.size
    · exact hk.2⟩
theorem PkM.sub {W V : World} {C np ns : Nat} {K : Kal.Kal} {q : Pe.PlanP} {r : Pe.ScenP} {S S' : Nat → Prop} {w : World} (h : PkM W V C np ns K q r S w) (hs : ∀ k, S' k → S k) : PkM W V C np ns K q r S' w :=
  ⟨h.cal.sub hs, h.p, h.s, h.bel, h.lo, fun k hk => h.lt k (hs k hk)⟩
theorem PkM.book {W V : World} {C np ns : Nat} {K : Kal.Kal} {q : Pe.PlanP} {r : Pe.ScenP} {S : Nat → Prop} {w : World} (h : PkM W V C np ns K q r S w) (x : Kal.Bk) :
    Calls Try.prog 33 #[.pointer (some ⟨C, 0, none⟩), bkV x] w fun e w' => e = .returned (.int .i64 (if Kal.free K x = true then 0 else 70)) ∧ PkM W V C np ns (Kal.book K x) q r S w' ∧ Ch (fun k => ¬ S k ∧ V.heap.size ≤ k) w w' :=
  (book_off x h.cal).mono fun _ _ ⟨h1, h2, h3⟩ => ⟨h1, ⟨h2.sub (fun k hk => ⟨hk, h.lt k hk⟩), h.p.ch h3 (fun _ hk => hk.2), h.s.ch h3 (fun _ hk => hk.2), h.bel.trans (h3.below h.bel.size (fun _ hk => Nat.le_trans h.lo hk.2)), h.lo, fun k hk => Nat.lt_of_lt_of_le (h.lt k hk) h3.size⟩, h3⟩
end Go.Proofs.Ytjdhjlhcdpekbaa
