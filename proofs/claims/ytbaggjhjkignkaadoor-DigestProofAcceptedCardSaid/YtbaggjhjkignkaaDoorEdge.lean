/-
  The way down to the end of a list's beginning, and the extension and its two values along it (mathematics alone).
-/
import Derived.Test.YtbaggjhjkignkaaDoorWays
import Derived.Test.YtbaggjhjkignkaaDoorProof
namespace Go.Proofs.YtbaggjhjkignkaaDoor
open Go.RowKit Tree

/-- The forks down to the greatest subtree that ends with the first M entries, the topmost one first. -/
def edgeF (m first fin M : Nat) : List Fk := (forksF m first fin (M - 1)).takeWhile (fun f => f.fin != M)
theorem edgeF_stop (m first M : Nat) : edgeF m first M M = [] := by
  unfold edgeF
  cases m with
  | zero => rfl
  | succ m =>
    rw [forksF]
    by_cases h : M - first ≤ 1
    · rw [if_pos h]; rfl
    · rw [if_neg h, List.takeWhile_cons_of_neg (by simp)]
theorem edgeF_low (m first fin M : Nat) (h1 : first < M) (h2 : M < fin) (hl : M ≤ first + leftN (fin - first)) :
    edgeF (m + 1) first fin M = ⟨first, first + leftN (fin - first), fin, true⟩ :: edgeF m first (first + leftN (fin - first)) M := by
  unfold edgeF
  rw [forksF_low _ _ _ _ (by omega) (by omega), List.takeWhile_cons_of_pos (by simp; omega)]
theorem edgeF_high (m first fin M : Nat) (h1 : first < M) (h2 : M < fin) (hl : ¬ M ≤ first + leftN (fin - first)) :
    edgeF (m + 1) first fin M = ⟨first, first + leftN (fin - first), fin, false⟩ :: edgeF m (first + leftN (fin - first)) fin M := by
  unfold edgeF
  rw [forksF_high _ _ _ _ (by omega) (by omega), List.takeWhile_cons_of_pos (by simp; omega)]

/-- Whether a way never goes to the right. -/
def leftAll (fs : List Fk) : Bool := fs.all (·.left)
/-- The first entry below the last fork. -/
def nextOf (d : Nat) (fs : List Fk) : Nat := fs.foldl (fun _ f => f.next) d

/-- The extension's part is what the way leaves aside, the last one first, behind the root below the way, if the way went to the right. -/
theorem part_edge (L : List ByteArray) : ∀ (m first fin M : Nat) (whole : Bool), first < M → M ≤ fin → fin ≤ L.length → fin - first ≤ 2 ^ m →
    partS Sha.shaS ((L.drop first).take (fin - first)) (M - first) whole =
      (if (whole && leftAll (edgeF m first fin M)) = true then [] else [rootS Sha.shaS ((L.drop (nextOf first (edgeF m first fin M))).take (M - nextOf first (edgeF m first fin M)))]) ++ (asides L (edgeF m first fin M)).reverse
  | m, first, fin, M, whole, h1, h2, h3, h4 => by
    have hlen : ((L.drop first).take (fin - first)).length = fin - first := by rw [List.length_take, List.length_drop]; omega
    by_cases he : M = fin
    · subst he
      rw [edgeF_stop, partS_all Sha.shaS (by rw [hlen]; exact Nat.le_refl _)]
      show _ = (if (whole && true) = true then [] else [_]) ++ []
      rw [Bool.and_true, List.append_nil]
      rfl
    · cases m with
      | zero => simp at h4; omega
      | succ m =>
        have hd : 2 ≤ fin - first := by omega
        have hp := leftN_pos (fin - first)
        have hq := leftN_lt hd
        have hh := leftN_half hd h4
        have hT : ((L.drop first).take (fin - first)).take (leftN (fin - first)) = (L.drop first).take (first + leftN (fin - first) - first) := by
          rw [List.take_take]; congr 1; omega
        have hD : ((L.drop first).take (fin - first)).drop (leftN (fin - first)) = (L.drop (first + leftN (fin - first))).take (fin - (first + leftN (fin - first))) := by
          rw [List.drop_take, List.drop_drop]; congr 1; omega
        by_cases hl : M ≤ first + leftN (fin - first)
        · have ih := part_edge L m first (first + leftN (fin - first)) M whole h1 hl (by omega) (by omega)
          rw [edgeF_low m first fin M h1 (by omega) hl, partS_low Sha.shaS (by omega) (by rw [hlen]; omega) (by rw [hlen]; omega), hlen, hT, hD, ih]
          show _ = (if (whole && (true && leftAll _)) = true then [] else [rootS Sha.shaS ((L.drop (nextOf first _)).take (M - nextOf first _))]) ++ (_ :: asides L _).reverse
          rw [Bool.true_and, List.reverse_cons, List.append_assoc]
          rfl
        · have ih := part_edge L m (first + leftN (fin - first)) fin M false (by omega) h2 h3 (by omega)
          rw [edgeF_high m first fin M h1 (by omega) hl, partS_high Sha.shaS (by omega) (by rw [hlen]; omega) (by rw [hlen]; omega), hlen, hT, hD,
            show M - first - leftN (fin - first) = M - (first + leftN (fin - first)) by omega, ih]
          show _ = (if (whole && (false && leftAll (edgeF m (first + leftN (fin - first)) fin M))) = true then [] else [rootS Sha.shaS ((L.drop (nextOf (first + leftN (fin - first)) _)).take (M - nextOf (first + leftN (fin - first)) _))]) ++ (_ :: asides L _).reverse
          rw [Bool.false_and, Bool.and_false, List.reverse_cons, List.append_assoc]
          rfl

/-- The way from the entry first on went to the right if and only if it ends at a later one. -/
theorem next_edge : ∀ (m first fin M : Nat), first < M → M ≤ fin → fin - first ≤ 2 ^ m →
    nextOf first (edgeF m first fin M) < M ∧ ((nextOf first (edgeF m first fin M) = first ∧ leftAll (edgeF m first fin M) = true) ∨ (first < nextOf first (edgeF m first fin M) ∧ leftAll (edgeF m first fin M) = false))
  | m, first, fin, M, h1, h2, h4 => by
    by_cases he : M = fin
    · subst he
      rw [edgeF_stop]
      exact ⟨h1, .inl ⟨rfl, rfl⟩⟩
    · cases m with
      | zero => simp at h4; omega
      | succ m =>
        have hd : 2 ≤ fin - first := by omega
        have hp := leftN_pos (fin - first)
        have hq := leftN_lt hd
        have hh := leftN_half hd h4
        by_cases hl : M ≤ first + leftN (fin - first)
        · have ih := next_edge m first (first + leftN (fin - first)) M h1 hl (by omega)
          rw [edgeF_low m first fin M h1 (by omega) hl]
          exact ih
        · have ih := next_edge m (first + leftN (fin - first)) fin M (by omega) h2 (by omega)
          rw [edgeF_high m first fin M h1 (by omega) hl]
          refine ⟨ih.1, .inr ⟨?_, rfl⟩⟩
          show first < nextOf (first + leftN (fin - first)) _
          rcases ih.2 with ⟨e, _⟩ | ⟨e, _⟩
          · rw [e]; omega
          · omega

/-- What Extension answers, along its way. -/
theorem ext_edge (L : List ByteArray) (M : Nat) (h1 : 0 < M) (h2 : M ≤ L.length) (hL : L.length ≤ 2 ^ 64) :
    extS Sha.shaS L M = (if 0 < nextOf 0 (edgeF 64 0 L.length M) then [rootS Sha.shaS ((L.drop (nextOf 0 (edgeF 64 0 L.length M))).take (M - nextOf 0 (edgeF 64 0 L.length M)))] else []) ++ (asides L (edgeF 64 0 L.length M)).reverse := by
  have h := part_edge L 64 0 L.length M true h1 h2 (Nat.le_refl _) hL
  rw [List.drop_zero, Nat.sub_zero, Nat.sub_zero, List.take_length] at h
  unfold extS
  rw [if_neg (by omega), h]
  rcases (next_edge 64 0 L.length M h1 h2 hL).2 with ⟨e, hl⟩ | ⟨e, hl⟩
  · rw [hl, if_pos (Bool.and_self true), if_neg (by omega)]
  · rw [hl, if_neg (by simp), if_pos e]

/-- The two values of an extension along a way, the topmost fork and the last element first; d: what lies below the way. -/
def climb2 (d : ByteArray) : List Fk → List ByteArray → ByteArray × ByteArray
  | f :: fs, x :: r => let p := climb2 d fs r; (if f.left then p.1 else f.joinS p.1 x, f.joinS p.2 x)
  | _, _ => (d, d)
/-- Its value below the way: the given root, if the way never went to the right, and else the first element. -/
theorem both_edge (old : ByteArray) : ∀ (m first fin M : Nat) (whole : Bool) (R : List ByteArray), first < M → M ≤ fin → fin - first ≤ 2 ^ m →
    bothR Sha.shaS old (M - first) (fin - first) whole R =
      if (whole && leftAll (edgeF m first fin M)) = true then (if R.length = (edgeF m first fin M).length then some (climb2 old (edgeF m first fin M) R) else none)
      else (if R.length = (edgeF m first fin M).length + 1 then some (climb2 (R.getD (edgeF m first fin M).length ⟨#[]⟩) (edgeF m first fin M) R) else none)
  | m, first, fin, M, whole, R, h1, h2, h4 => by
    by_cases he : M = fin
    · subst he
      rw [edgeF_stop]
      show _ = if (whole && true) = true then (if R.length = 0 then some (old, old) else none) else (if R.length = 0 + 1 then some (R.getD 0 ⟨#[]⟩, R.getD 0 ⟨#[]⟩) else none)
      rw [Bool.and_true]
      cases R with
      | nil => cases whole <;> simp [bothR]
      | cons x r => cases whole <;> cases r <;> simp [bothR]
    · cases m with
      | zero => simp at h4; omega
      | succ m =>
        have hd : 2 ≤ fin - first := by omega
        have hp := leftN_pos (fin - first)
        have hq := leftN_lt hd
        have hh := leftN_half hd h4
        by_cases hl : M ≤ first + leftN (fin - first)
        · rw [edgeF_low m first fin M h1 (by omega) hl]
          cases R with
          | nil =>
            rw [bothR, if_neg (by omega)]
            simp
          | cons x r =>
            have ih := both_edge old m first (first + leftN (fin - first)) M whole r h1 hl (by omega)
            rw [Nat.add_sub_cancel_left] at ih
            rw [bothR, if_neg (by omega), if_pos (by omega), ih]
            show _ = if (whole && (true && leftAll (edgeF m first (first + leftN (fin - first)) M))) = true then _ else _
            rw [Bool.true_and]
            generalize edgeF m first (first + leftN (fin - first)) M = fs
            by_cases hw : (whole && leftAll fs) = true
            · rw [if_pos hw, if_pos hw]
              by_cases hr : r.length = fs.length
              · rw [if_pos hr, if_pos (by simp [hr])]; rfl
              · rw [if_neg hr, if_neg (by simp [hr])]; rfl
            · rw [if_neg hw, if_neg hw]
              by_cases hr : r.length = fs.length + 1
              · rw [if_pos hr, if_pos (by simp [hr])]; rfl
              · rw [if_neg hr, if_neg (by simp [hr])]; rfl
        · rw [edgeF_high m first fin M h1 (by omega) hl]
          cases R with
          | nil =>
            rw [bothR, if_neg (by omega)]
            simp [leftAll]
          | cons x r =>
            have ih := both_edge old m (first + leftN (fin - first)) fin M false r (by omega) h2 (by omega)
            rw [show M - (first + leftN (fin - first)) = M - first - leftN (fin - first) by omega, show fin - (first + leftN (fin - first)) = fin - first - leftN (fin - first) by omega] at ih
            rw [bothR, if_neg (by omega), if_neg (by omega), ih]
            generalize edgeF m (first + leftN (fin - first)) fin M = fs
            have hw : ¬ (whole && leftAll (⟨first, first + leftN (fin - first), fin, false⟩ :: fs)) = true := by simp [leftAll]
            rw [Bool.false_and, if_neg Bool.false_ne_true, if_neg hw]
            by_cases hr : r.length = fs.length + 1
            · rw [if_pos hr, if_pos (by simp [hr])]; rfl
            · rw [if_neg hr, if_neg (by simp [hr])]; rfl

theorem climb2_nil (d : ByteArray) (r : List ByteArray) : climb2 d [] r = (d, d) := by cases r <;> rfl
theorem climb2_size (d : ByteArray) (hd : d.size = 32) : ∀ (fs : List Fk) (R : List ByteArray), (climb2 d fs R).1.size = 32 ∧ (climb2 d fs R).2.size = 32
  | [], R => by rw [climb2_nil]; exact ⟨hd, hd⟩
  | f :: fs, [] => ⟨hd, hd⟩
  | f :: fs, x :: r => by
    have ih := climb2_size d hd fs r
    have hj : ∀ a b, (f.joinS a b).size = 32 := fun a b => by unfold Fk.joinS; cases f.left <;> exact Sha.shaS_size _
    refine ⟨?_, hj _ _⟩
    show (if f.left then (climb2 d fs r).1 else f.joinS (climb2 d fs r).1 x).size = 32
    cases f.left
    · exact hj _ _
    · exact ih.1
/-- The two values behind k steps from below. -/
def climb2K (d : ByteArray) (fs : List Fk) (R : List ByteArray) (k : Nat) : ByteArray × ByteArray := climb2 d (fs.drop (fs.length - k)) (R.drop (fs.length - k))
theorem climb2K_zero (d : ByteArray) (fs : List Fk) (R : List ByteArray) : climb2K d fs R 0 = (d, d) := by
  unfold climb2K; rw [Nat.sub_zero, List.drop_length]; exact climb2_nil _ _
theorem climb2K_all (d : ByteArray) (fs : List Fk) (R : List ByteArray) : climb2K d fs R fs.length = climb2 d fs R := by
  unfold climb2K; rw [Nat.sub_self]; rfl
theorem climb2K_succ (d : ByteArray) (fs : List Fk) (R : List ByteArray) (k : Nat) (hk : k < fs.length) (hl : fs.length ≤ R.length) :
    climb2K d fs R (k + 1) = (if (fs[fs.length - 1 - k]'(by omega)).left then (climb2K d fs R k).1 else (fs[fs.length - 1 - k]'(by omega)).joinS (climb2K d fs R k).1 (R[fs.length - 1 - k]'(by omega)),
      (fs[fs.length - 1 - k]'(by omega)).joinS (climb2K d fs R k).2 (R[fs.length - 1 - k]'(by omega))) := by
  unfold climb2K
  have e : fs.length - k = fs.length - 1 - k + 1 := by omega
  rw [show fs.length - (k + 1) = fs.length - 1 - k by omega, List.drop_eq_getElem_cons (by omega : fs.length - 1 - k < fs.length), List.drop_eq_getElem_cons (by omega : fs.length - 1 - k < R.length), e]
  rfl
end Go.Proofs.YtbaggjhjkignkaaDoor

