/-
  Calendars on paper: bookings made again in any order; what an owner's bookings are; how many there are.
-/
import Derived.Test.YtjdhjlhcdpekbaaFirstW
namespace Go.Proofs.Ytjdhjlhcdpekbaa
open Go.RowKit Go.Shelf

theorem srt_apart : ∀ {l : List Kal.Bk}, Kal.Srt l → ∀ x ∈ l, ∀ y ∈ l, x ≠ y → ¬ (x.s < y.e ∧ y.s < x.e)
  | a :: l, hs, x, hx, y, hy, hne => by
    obtain ⟨h1, h2⟩ := hs.head
    rcases List.mem_cons.1 hx with e | hx' <;> rcases List.mem_cons.1 hy with e' | hy'
    · exact absurd (e.trans e'.symm) hne
    · subst e; have := h2 y hy'; omega
    · subst e'; have := h2 x hx'; omega
    · exact srt_apart hs.tail x hx' y hy' hne
theorem srt_ext : ∀ {l m : List Kal.Bk}, Kal.Srt l → Kal.Srt m → (∀ x, x ∈ l ↔ x ∈ m) → l = m
  | [], [], _, _, _ => rfl
  | [], b :: m, _, _, h => absurd ((h b).2 (by simp)) (by simp)
  | a :: l, [], _, _, h => absurd ((h a).1 (by simp)) (by simp)
  | a :: l, b :: m, hs, ht, h => by
    obtain ⟨a1, a2⟩ := hs.head
    obtain ⟨b1, b2⟩ := ht.head
    have hab : a = b := by
      rcases List.mem_cons.1 ((h a).1 (by simp)) with e | ha
      · exact e
      · rcases List.mem_cons.1 ((h b).2 (by simp)) with e | hb
        · exact e.symm
        · have := b2 a ha; have := a2 b hb; omega
    subst hab
    rw [srt_ext hs.tail ht.tail (fun x => ⟨fun hx => ?_, fun hx => ?_⟩)]
    · rcases List.mem_cons.1 ((h x).1 (by simp [hx])) with rfl | hx'
      · have := a2 x hx; omega
      · exact hx'
    · rcases List.mem_cons.1 ((h x).2 (by simp [hx])) with rfl | hx'
      · have := b2 x hx; omega
      · exact hx'
theorem free_iff {K : Kal.Kal} {b : Kal.Bk} : Kal.free K b = true ↔ Kal.okB b = true ∧ ∀ x ∈ K b.tool.toNat, ¬ (x.s < b.e ∧ b.s < x.e) := by
  unfold Kal.free Kal.busy
  rw [Bool.and_eq_true]
  constructor
  · rintro ⟨h1, h2⟩
    have hb := Kal.okB_iff.1 h1
    refine ⟨h1, Kal.anyHits_false.1 ?_⟩
    have : decide (b.s < b.e) = true := by simp; omega
    rw [this, Bool.true_and] at h2
    simpa using h2
  · rintro ⟨h1, h2⟩
    refine ⟨h1, ?_⟩
    rw [Kal.anyHits_false.2 h2]; simp
theorem ins_count (p : Kal.Bk → Bool) (l : List Kal.Bk) (b : Kal.Bk) : (Kal.ins l b).countP p = l.countP p + if p b = true then 1 else 0 := by
  have h : l.countP p = (l.take (Kal.fb l b.s)).countP p + (l.drop (Kal.fb l b.s)).countP p := by rw [← List.countP_append, List.take_append_drop]
  unfold Kal.ins
  rw [List.countP_append, List.countP_cons, h]
  omega
theorem upTo_put (p : Kal.Bk → Bool) (K : Kal.Kal) (b : Kal.Bk) : ∀ k, (Kal.upTo (Kal.put K b) k).countP p = (Kal.upTo K k).countP p + if b.tool.toNat < k ∧ p b = true then 1 else 0
  | 0 => by simp [Kal.upTo]
  | k + 1 => by
    have ih := upTo_put p K b k
    rw [Kal.upTo_succ, Kal.upTo_succ, List.countP_append, List.countP_append, ih]
    unfold Kal.put
    by_cases e : k = b.tool.toNat
    · rw [if_pos e, ins_count]
      by_cases hp : p b = true
      · rw [if_neg (by omega), if_pos hp, if_pos ⟨by omega, hp⟩]; omega
      · rw [if_neg (by simp [hp]), if_neg hp, if_neg (by simp [hp])]; omega
    · rw [if_neg e]
      by_cases hp : p b = true
      · by_cases hk : b.tool.toNat < k
        · rw [if_pos ⟨hk, hp⟩, if_pos ⟨by omega, hp⟩]; omega
        · rw [if_neg (by omega), if_neg (by omega)]; omega
      · rw [if_neg (by simp [hp]), if_neg (by simp [hp])]; omega
theorem all_book (p : Kal.Bk → Bool) (K : Kal.Kal) (b : Kal.Bk) : (Kal.all (Kal.book K b)).countP p = (Kal.all K).countP p + if Kal.free K b = true ∧ p b = true then 1 else 0 := by
  unfold Kal.book
  by_cases hf : Kal.free K b = true
  · rw [if_pos hf]
    unfold Kal.all
    rw [upTo_put]
    have := Kal.okB_iff.1 (free_iff.1 hf).1
    by_cases hp : p b = true
    · rw [if_pos ⟨by omega, hp⟩, if_pos ⟨hf, hp⟩]
    · rw [if_neg (by simp [hp]), if_neg (by simp [hp])]
  · rw [if_neg hf, if_neg (by simp [hf])]; rfl
theorem len_book (K : Kal.Kal) (b : Kal.Bk) : (Kal.all (Kal.book K b)).length = (Kal.all K).length + if Kal.free K b = true then 1 else 0 := by
  have := all_book (fun _ => true) K b
  simpa using this
theorem upTo_drop (K : Kal.Kal) (o : Int) : ∀ k, Kal.upTo (Kal.drop K o) k = (Kal.upTo K k).filter (fun b => !decide (b.o = o))
  | 0 => by simp [Kal.upTo]
  | k + 1 => by rw [Kal.upTo_succ, Kal.upTo_succ, List.filter_append, upTo_drop K o k]; rfl
theorem owned_len (K : Kal.Kal) (o : Int) : (Kal.owned K o).length = (Kal.all K).countP (fun b => decide (b.o = o)) := by
  unfold Kal.owned; rw [List.countP_eq_length_filter]
theorem countO_is (K : Kal.Kal) (o : Int) : countO K o = ((Kal.owned K o).length : Int) := by
  have h := List.length_eq_countP_add_countP (fun b : Kal.Bk => decide (b.o = o)) (l := Kal.all K)
  have h2 : (Kal.all (Kal.drop K o)).length = (Kal.all K).countP (fun b => !decide (b.o = o)) := by unfold Kal.all; rw [upTo_drop, List.countP_eq_length_filter]
  have h3 : (Kal.all K).countP (fun b => !decide (b.o = o)) = (Kal.all K).countP (fun b => decide (¬ decide (b.o = o) = true)) := by congr 1; funext b; simp
  unfold countO
  rw [owned_len]; omega
theorem mem_upTo {K : Kal.Kal} {x : Kal.Bk} {k : Nat} : x ∈ Kal.upTo K k ↔ ∃ i, i < k ∧ x ∈ K i := by unfold Kal.upTo; simp
theorem mem_all {K : Kal.Kal} {x : Kal.Bk} : x ∈ Kal.all K ↔ ∃ i, i < 60 ∧ x ∈ K i := mem_upTo
theorem mem_owned {K : Kal.Kal} {o : Int} {x : Kal.Bk} : x ∈ Kal.owned K o ↔ (∃ i, i < 60 ∧ x ∈ K i) ∧ x.o = o := by unfold Kal.owned; rw [List.mem_filter, mem_all]; simp
abbrev Asc (a b : Kal.Bk) : Prop := a.tool < b.tool ∨ a.tool = b.tool ∧ a.s < b.s
theorem upTo_asc {K : Kal.Kal} (h : Kal.Ok K) : ∀ k, k ≤ 60 → (Kal.upTo K k).Pairwise Asc
  | 0, _ => by simp [Kal.upTo]
  | k + 1, hk => by
    rw [Kal.upTo_succ, List.pairwise_append]
    refine ⟨upTo_asc h k (by omega), ?_, fun a ha b hb => ?_⟩
    · refine (h.srt k (by omega)).1.imp_of_mem (fun {a b} ha hb hab => .inr ⟨?_, ?_⟩)
      · rw [(h.mem k (by omega) a ha).2, (h.mem k (by omega) b hb).2]
      · have := (h.srt k (by omega)).2 a ha; omega
    · obtain ⟨i, hi, hx⟩ := mem_upTo.1 ha
      have h1 := (h.mem i (by omega) a hx).2
      have h2 := (h.mem k (by omega) b hb).2
      left; omega
theorem asc_nodup {l : List Kal.Bk} (h : l.Pairwise Asc) : l.Nodup := h.imp (fun {a b} hab e => by subst e; rcases hab with h | h <;> omega)
theorem owned_asc {K : Kal.Kal} (h : Kal.Ok K) (o : Int) : (Kal.owned K o).Pairwise Asc := (upTo_asc h 60 (Nat.le_refl _)).filter _
theorem fold_ok : ∀ (L : List Kal.Bk) {K : Kal.Kal}, Kal.Ok K → Kal.Ok (L.foldl Kal.book K)
  | [], _, h => h
  | b :: L, _, h => fold_ok L (h.book b)
theorem fold_mem : ∀ (L : List Kal.Bk) {K : Kal.Kal} {x : Kal.Bk} {i : Nat}, x ∈ L.foldl Kal.book K i → x ∈ L ∨ x ∈ K i
  | [], _, _, _, h => .inr h
  | b :: L, K, x, i, h => by
    rcases fold_mem L h with h | h
    · exact .inl (by simp [h])
    · rcases mem_book h with rfl | h
      · exact .inl (by simp)
      · exact .inr h
theorem fold_take (L : List Kal.Bk) (K : Kal.Kal) (k : Nat) (h : k < L.length) : (L.take (k + 1)).foldl Kal.book K = Kal.book ((L.take k).foldl Kal.book K) L[k] := by
  rw [List.take_succ_eq_append_getElem h, List.foldl_append]; rfl
/-- Bookings of a calendar that another one lacks can be made there, in any order. -/
theorem rebook {K K0 : Kal.Kal} (hK : Kal.Ok K) (h0 : Kal.Ok K0) {L : List Kal.Bk} (hn : L.Nodup) (hL : ∀ x ∈ L, ∃ i, i < 60 ∧ x ∈ K i) (hs : ∀ i, i < 60 → ∀ x ∈ K0 i, x ∈ K i ∧ x ∉ L) (k : Nat) (h : k < L.length) :
    Kal.free ((L.take k).foldl Kal.book K0) L[k] = true := by
  obtain ⟨i, hi, hx⟩ := hL _ (List.getElem_mem h)
  obtain ⟨m1, m2⟩ := hK.mem i hi _ hx
  rw [free_iff]
  refine ⟨m1, fun y hy => ?_⟩
  rw [m2, Int.toNat_natCast] at hy
  have hyt := ((fold_ok (L.take k) h0).mem i hi y hy).2
  have hyK : y ∈ K i ∧ y ≠ L[k] := by
    rcases fold_mem _ hy with hy' | hy'
    · obtain ⟨j, hj, e⟩ := List.mem_take_iff_getElem.1 hy'
      have hjl : j < L.length := by omega
      obtain ⟨i', hi', hx'⟩ := hL y (by rw [← e]; exact List.getElem_mem _)
      have := (hK.mem i' hi' y hx').2
      have : i' = i := by omega
      subst this
      refine ⟨hx', fun e' => ?_⟩
      have := (List.getElem_inj hn (h₀ := hjl) (h₁ := h)).1 (e.trans e')
      omega
    · obtain ⟨a1, a2⟩ := hs i hi y hy'
      exact ⟨a1, fun e => a2 (e ▸ List.getElem_mem h)⟩
  exact srt_apart (hK.srt i hi) y hyK.1 _ hx hyK.2
theorem mem_put_old {K : Kal.Kal} {b x : Kal.Bk} {i : Nat} (h : x ∈ K i) : x ∈ Kal.book K b i := by
  unfold Kal.book; split
  · unfold Kal.put; split
    · exact Kal.mem_ins.2 (.inr h)
    · exact h
  · exact h
theorem mem_put_new {K : Kal.Kal} {b : Kal.Bk} (h : Kal.free K b = true) : b ∈ Kal.book K b b.tool.toNat := by
  unfold Kal.book; rw [if_pos h]; unfold Kal.put; rw [if_pos rfl]; exact Kal.mem_ins.2 (.inl rfl)
/-- All bookings of a calendar, in any order, give the same calendar. -/
theorem rebook_all {K : Kal.Kal} (hK : Kal.Ok K) {L : List Kal.Bk} (hp : L.Perm (Kal.all K)) :
    (∀ k (h : k < L.length), Kal.free ((L.take k).foldl Kal.book Kal.empty) L[k] = true) ∧ ∀ i, i < 60 → L.foldl Kal.book Kal.empty i = K i := by
  have hn : L.Nodup := hp.nodup_iff.2 (asc_nodup (upTo_asc hK 60 (Nat.le_refl _)))
  have hL : ∀ x ∈ L, ∃ i, i < 60 ∧ x ∈ K i := fun x hx => mem_all.1 (hp.mem_iff.1 hx)
  have hf := rebook (K0 := Kal.empty) hK Kal.Ok.empty hn hL (fun i _ x hx => by cases hx)
  refine ⟨hf, fun i hi => srt_ext ((fold_ok L Kal.Ok.empty).srt i hi) (hK.srt i hi) (fun x => ⟨fun hx => ?_, fun hx => ?_⟩)⟩
  · rcases fold_mem L hx with h | h
    · obtain ⟨j, hj, hxj⟩ := hL x h
      have h1 := (hK.mem j hj x hxj).2
      have h2 := ((fold_ok L Kal.Ok.empty).mem i hi x hx).2
      have : j = i := by omega
      subst this; exact hxj
    · cases h
  · have hx' : x ∈ L := hp.mem_iff.2 (mem_all.2 ⟨i, hi, hx⟩)
    have ht := (hK.mem i hi x hx).2
    have hall : ∀ k, k ≤ L.length → ∀ y ∈ L.take k, y ∈ (L.take k).foldl Kal.book Kal.empty y.tool.toNat := by
      intro k
      induction k with
      | zero => intro _ y hy; simp at hy
      | succ k ih =>
        intro hk y hy
        rw [fold_take L _ k (by omega)]
        rw [List.take_succ_eq_append_getElem (by omega), List.mem_append, List.mem_singleton] at hy
        rcases hy with hy | rfl
        · exact mem_put_old (ih (by omega) y hy)
        · exact mem_put_new (hf k (by omega))
    have := hall L.length (Nat.le_refl _) x (by rw [List.take_length]; exact hx')
    rwa [List.take_length, ht, Int.toNat_natCast] at this
theorem ins_filter (p : Kal.Bk → Bool) (l : List Kal.Bk) (b : Kal.Bk) (h : p b = false) : (Kal.ins l b).filter p = l.filter p := by
  unfold Kal.ins
  rw [List.filter_append, List.filter_cons_of_neg (by simp [h]), ← List.filter_append, List.take_append_drop]
theorem drop_book (K : Kal.Kal) (b : Kal.Bk) (i : Nat) : Kal.drop (Kal.book K b) b.o i = Kal.drop K b.o i := by
  unfold Kal.book; split
  · unfold Kal.put Kal.drop
    simp only
    split
    · exact ins_filter _ _ _ (by simp)
    · rfl
  · rfl
end Go.Proofs.Ytjdhjlhcdpekbaa

