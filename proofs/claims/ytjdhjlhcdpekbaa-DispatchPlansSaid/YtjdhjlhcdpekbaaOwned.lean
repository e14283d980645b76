/-
  The contract of Owned.
-/
import Derived.Test.YtjdhjlhcdpekbaaBook
namespace Go.Proofs.Ytjdhjlhcdpekbaa
open Go.RowKit Go.Shelf

def ofO (o : Int) (b : Kal.Bk) : Bool := decide (b.o = o)
/-- What Owned has collected. -/
def gotO (K : Kal.Kal) (o : Int) (k j : Nat) : List Kal.Bk := (Kal.upTo K k).filter (ofO o) ++ ((K k).take j).filter (ofO o)
theorem gotO_zero (K : Kal.Kal) (o : Int) (k : Nat) : gotO K o k 0 = (Kal.upTo K k).filter (ofO o) := by simp [gotO]
theorem gotO_all (K : Kal.Kal) (o : Int) (k j : Nat) (h : (K k).length ≤ j) : gotO K o k j = (Kal.upTo K (k + 1)).filter (ofO o) := by
  unfold gotO; rw [List.take_of_length_le h, Kal.upTo_succ, List.filter_append]
theorem gotO_yes (K : Kal.Kal) (o : Int) (k j : Nat) (h : j < (K k).length) (hb : (K k)[j].o = o) : gotO K o k (j + 1) = gotO K o k j ++ [(K k)[j]] := by
  unfold gotO; rw [List.take_succ_eq_append_getElem h, List.filter_append, List.append_assoc]
  congr 2
  simp [ofO, hb]
theorem gotO_no (K : Kal.Kal) (o : Int) (k j : Nat) (h : j < (K k).length) (hb : ¬ (K k)[j].o = o) : gotO K o k (j + 1) = gotO K o k j := by
  unfold gotO; rw [List.take_succ_eq_append_getElem h, List.filter_append]
  simp [ofO, hb]
theorem gotO_len {K : Kal.Kal} (h : Kal.Ok K) (o : Int) (k j : Nat) (hk : k < 60) : (gotO K o k j).length ≤ 60000000 := by
  unfold gotO
  rw [List.length_append]
  have h1 := List.length_filter_le (ofO o) (Kal.upTo K k)
  have h2 := List.length_filter_le (ofO o) ((K k).take j)
  have h3 := Kal.upTo_len h k (by omega)
  have h4 := h.len hk
  have h5 : ((K k).take j).length ≤ (K k).length := by rw [List.length_take]; omega
  have h6 : k * 1000000 ≤ 59 * 1000000 := Nat.mul_le_mul_right _ (by omega)
  omega
end Go.Proofs.Ytjdhjlhcdpekbaa

