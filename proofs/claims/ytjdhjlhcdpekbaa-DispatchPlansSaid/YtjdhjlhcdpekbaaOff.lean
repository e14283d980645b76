/-
  Calls on a calendar while other memory is kept.
-/
import Derived.Test.YtjdhjlhcdpekbaaCloneW
import Derived.Test.YtjdhjlhcdpekbaaKeep
namespace Go.Proofs.Ytjdhjlhcdpekbaa
open Go.RowKit Go.Shelf

/-- As CalIs; and none of its blocks is in S. -/
def CalOff (C : Nat) (K : Kal.Kal) (W : World) (S : Nat → Prop) (w : World) : Prop := ∃ d : CalP, d.C = C ∧ CalAt W.heap.size d K w ∧ Below W.heap.size W w ∧ ∀ k, d.owns k → ¬ S k
theorem CalOff.is {C : Nat} {K : Kal.Kal} {W w : World} {S : Nat → Prop} (h : CalOff C K W S w) : CalIs C K W w := by
  obtain ⟨d, h1, h2, h3, _⟩ := h; exact ⟨d, h1, h2, h3⟩
theorem CalIs.off {C : Nat} {K : Kal.Kal} {W w w' : World} (h : CalIs C K W w) (hb : Below w.heap.size w w') : CalOff C K W (fun k => w.heap.size ≤ k) w' := by
  obtain ⟨d, h1, h2, h3⟩ := h; exact ⟨d, h1, h2.below hb, below_step h3 hb, fun k hk => by have := (h2.lt k hk).2; omega⟩
theorem CalOff.below {C : Nat} {K : Kal.Kal} {W w w' : World} {S : Nat → Prop} (h : CalOff C K W S w) (hb : Below w.heap.size w w') : CalOff C K W S w' := by
  obtain ⟨d, h1, h2, h3, h4⟩ := h; exact ⟨d, h1, h2.below hb, below_step h3 hb, h4⟩
theorem CalOff.sub {C : Nat} {K : Kal.Kal} {W w : World} {S S' : Nat → Prop} (h : CalOff C K W S w) (hS : ∀ k, S' k → S k) : CalOff C K W S' w := by
  obtain ⟨d, h1, h2, h3, h4⟩ := h; exact ⟨d, h1, h2, h3, fun k hk hs => h4 k hk (hS k hs)⟩
/-- All that is new since w is kept, too. -/
theorem CalOff.more {C : Nat} {K : Kal.Kal} {W w w' : World} {S : Nat → Prop} (h : CalOff C K W S w) (hb : Below w.heap.size w w') : CalOff C K W (fun k => S k ∨ (w.heap.size ≤ k)) w' := by
  obtain ⟨d, h1, h2, h3, h4⟩ := h
  exact ⟨d, h1, h2.below hb, below_step h3 hb, fun k hk => by have := (h2.lt k hk).2; rintro (hs | hs); exact h4 k hk hs; omega⟩
theorem CalOff.ch {C : Nat} {K : Kal.Kal} {W w w' : World} {S T : Nat → Prop} (h : CalOff C K W S w) (hc : Ch T w w') (hT : ∀ k, T k → S k ∧ W.heap.size ≤ k) : CalOff C K W S w' := by
  obtain ⟨d, h1, h2, h3, h4⟩ := h
  exact ⟨d, h1, h2.ch hc (fun k hk ht => h4 k hk (hT k ht).1), h3.trans (hc.below h3.size (fun k hk => (hT k hk).2)), h4⟩
theorem moved_off {d d' : CalP} {C : Nat} {K K' : Kal.Kal} {W w w' : World} {S : Nat → Prop} (hm : Moved W.heap.size d d' K' w w') (h1 : d.C = C) (h2 : CalAt W.heap.size d K w) (h3 : Below W.heap.size W w) (h4 : ∀ k, d.owns k → ¬ S k) :
    CalOff C K' W (fun k => S k ∧ k < w.heap.size) w' ∧ Ch (fun k => ¬ S k ∧ W.heap.size ≤ k) w w' :=
  ⟨⟨d', hm.same.1.trans h1, hm.at_, hm.bel h3 (fun j hj => (h2.lt j hj).1), fun k hk hs => by
    rcases hm.owns k hk with h | h
    · exact h4 k h hs.1
    · omega⟩, hm.ch.mono (fun k hk => ⟨h4 k hk, (h2.lt k hk).1⟩)⟩
theorem book_off {C : Nat} {K : Kal.Kal} {W w : World} {S : Nat → Prop} (b : Kal.Bk) (h : CalOff C K W S w) : Calls Try.prog 33 #[.pointer (some ⟨C, 0, none⟩), bkV b] w fun e w' => e = .returned (.int .i64 (if Kal.free K b = true then 0 else 70)) ∧ CalOff C (Kal.book K b) W (fun k => S k ∧ k < w.heap.size) w' ∧ Ch (fun k => ¬ S k ∧ W.heap.size ≤ k) w w' := by
  obtain ⟨d, h1, h2, h3, h4⟩ := h
  exact (Book_at C b h2 h1).mono fun _ _ ⟨c', he, hm⟩ => ⟨he, moved_off hm h1 h2 h3 h4⟩
/-- A calendar whose blocks are all in S stays, when only others change. -/
theorem CalIs.keep {C : Nat} {K : Kal.Kal} {W V w w' : World} {T : Nat → Prop} (h : CalIs C K V w) (hc : Ch T w w') (hT : ∀ k, V.heap.size ≤ k → k < w.heap.size → ¬ T k) (hW : Below W.heap.size W w') (hV : W.heap.size ≤ V.heap.size) : CalIs C K W w' := by
  obtain ⟨d, h1, h2, h3⟩ := h
  exact ⟨d, h1, (h2.ch hc (fun k hk => hT k (h2.lt k hk).1 (h2.lt k hk).2)).mono hV, hW⟩
end Go.Proofs.Ytjdhjlhcdpekbaa

