/-
  The fixed examples of the statements: their digests, by the kernel.
-/
import Derived.Test.YtbaggjhjkignkaaDoorHex
import Derived.Test.YtbaggjhjkignkaaDoorTree
namespace Go.Proofs.YtbaggjhjkignkaaDoor
open Go.RowKit Tree

namespace Ex
def a : ByteArray := ⟨#[97]⟩
def b : ByteArray := ⟨#[98]⟩
def c : ByteArray := ⟨#[99]⟩
def d : ByteArray := ⟨#[100]⟩
def la : ByteArray := ⟨#[2, 42, 105, 121, 230, 218, 183, 170, 90, 228, 195, 229, 228, 95, 126, 151, 113, 18, 167, 230, 53, 147, 130, 13, 190, 193, 236, 115, 138, 36, 249, 60]⟩
def lb : ByteArray := ⟨#[87, 235, 53, 97, 93, 71, 243, 78, 199, 20, 202, 205, 245, 253, 116, 96, 138, 94, 142, 16, 39, 36, 232, 11, 36, 178, 135, 192, 194, 123, 106, 49]⟩
def lc : ByteArray := ⟨#[89, 127, 203, 49, 40, 45, 52, 101, 76, 32, 13, 52, 24, 252, 165, 112, 92, 100, 142, 191, 50, 110, 199, 61, 141, 222, 241, 24, 65, 248, 118, 216]⟩
def ld : ByteArray := ⟨#[208, 112, 220, 91, 141, 169, 174, 167, 220, 15, 90, 212, 194, 157, 137, 150, 82, 0, 5, 156, 154, 12, 236, 163, 171, 213, 218, 36, 146, 220, 183, 29]⟩
def ab : ByteArray := ⟨#[177, 55, 152, 95, 244, 132, 251, 96, 13, 185, 49, 7, 199, 123, 3, 101, 200, 13, 120, 245, 180, 41, 222, 208, 253, 151, 54, 29, 7, 121, 153, 235]⟩
def root : ByteArray := ⟨#[54, 100, 46, 115, 194, 84, 10, 177, 33, 227, 166, 191, 149, 69, 176, 162, 73, 130, 205, 131, 14, 177, 61, 60, 209, 157, 227, 206, 108, 2, 30, 193]⟩
def rd : ByteArray := ⟨#[11, 137, 49, 181, 17, 196, 191, 58, 231, 206, 86, 31, 156, 18, 116, 111, 70, 5, 244, 46, 236, 117, 24, 141, 22, 184, 218, 186, 37, 48, 72, 132]⟩
def w1 : ByteArray := ⟨#[174, 64, 140, 162, 195, 118, 124, 82, 232, 115, 100, 129, 196, 94, 120, 216, 153, 5, 120, 176, 239, 140, 226, 106, 139, 116, 103, 128, 205, 233, 151, 16]⟩
def w2 : ByteArray := ⟨#[179, 47, 200, 233, 115, 55, 22, 14, 104, 174, 6, 157, 155, 157, 219, 50, 253, 112, 219, 46, 13, 228, 29, 87, 29, 255, 220, 190, 234, 6, 61, 139]⟩
theorem la_is : leafS Sha.shaS a = la := by kernel_rfl
theorem lb_is : leafS Sha.shaS b = lb := by kernel_rfl
theorem lc_is : leafS Sha.shaS c = lc := by kernel_rfl
theorem ld_is : leafS Sha.shaS d = ld := by kernel_rfl
theorem ab_is : nodeS Sha.shaS la lb = ab := by kernel_rfl
theorem root_is : nodeS Sha.shaS ab lc = root := by kernel_rfl
theorem rd_is : nodeS Sha.shaS ab ld = rd := by kernel_rfl
theorem w1_is : nodeS Sha.shaS ab lb = w1 := by kernel_rfl
theorem w2_is : nodeS Sha.shaS w1 lc = w2 := by kernel_rfl
theorem hex_empty : hexS (Sha.shaS ⟨#[]⟩) = ⟨#[101, 51, 98, 48, 99, 52, 52, 50, 57, 56, 102, 99, 49, 99, 49, 52, 57, 97, 102, 98, 102, 52, 99, 56, 57, 57, 54, 102, 98, 57, 50, 52, 50, 55, 97, 101, 52, 49, 101, 52, 54, 52, 57, 98, 57, 51, 52, 99, 97, 52, 57, 53, 57, 57, 49, 98, 55, 56, 53, 50, 98, 56, 53, 53]⟩ := by kernel_rfl
theorem hex_abc : hexS (Sha.shaS ⟨#[97, 98, 99]⟩) = ⟨#[98, 97, 55, 56, 49, 54, 98, 102, 56, 102, 48, 49, 99, 102, 101, 97, 52, 49, 52, 49, 52, 48, 100, 101, 53, 100, 97, 101, 50, 50, 50, 51, 98, 48, 48, 51, 54, 49, 97, 51, 57, 54, 49, 55, 55, 97, 57, 99, 98, 52, 49, 48, 102, 102, 54, 49, 102, 50, 48, 48, 49, 53, 97, 100]⟩ := by kernel_rfl
theorem left2 : leftN 2 = 1 := by decide
theorem left3 : leftN 3 = 2 := by decide
theorem root_ab : rootS Sha.shaS [a, b] = ab := by
  rw [rootS_two Sha.shaS (by decide)]
  show nodeS Sha.shaS (rootS Sha.shaS ([a, b].take (leftN 2))) (rootS Sha.shaS ([a, b].drop (leftN 2))) = _
  rw [left2]
  show nodeS Sha.shaS (rootS Sha.shaS [a]) (rootS Sha.shaS [b]) = _
  rw [rootS_one, rootS_one, la_is, lb_is, ab_is]
theorem root_abc : rootS Sha.shaS [a, b, c] = root := by
  rw [rootS_two Sha.shaS (by decide)]
  show nodeS Sha.shaS (rootS Sha.shaS ([a, b, c].take (leftN 3))) (rootS Sha.shaS ([a, b, c].drop (leftN 3))) = _
  rw [left3]
  show nodeS Sha.shaS (rootS Sha.shaS [a, b]) (rootS Sha.shaS [c]) = _
  rw [rootS_one, root_ab, lc_is, root_is]
theorem root_a : rootS Sha.shaS [a] = la := by rw [rootS_one, la_is]
theorem proof_abc : proofS Sha.shaS [a, b, c] 2 = [ab] := by
  rw [proofS_high Sha.shaS (by decide) (by decide)]
  show proofS Sha.shaS ([a, b, c].drop (leftN 3)) (2 - leftN 3) ++ [rootS Sha.shaS ([a, b, c].take (leftN 3))] = _
  rw [left3]
  show proofS Sha.shaS [c] 0 ++ [rootS Sha.shaS [a, b]] = _
  rw [proofS_one Sha.shaS (by decide), root_ab]
  rfl
theorem ext_abc : extS Sha.shaS [a, b, c] 1 = [lb, lc] := by
  unfold extS
  rw [if_neg (by decide), partS_low Sha.shaS (by decide) (by decide) (by decide)]
  show partS Sha.shaS ([a, b, c].take (leftN 3)) 1 true ++ [rootS Sha.shaS ([a, b, c].drop (leftN 3))] = _
  rw [left3]
  show partS Sha.shaS [a, b] 1 true ++ [rootS Sha.shaS [c]] = _
  rw [partS_low Sha.shaS (by decide) (by decide) (by decide)]
  show (partS Sha.shaS ([a, b].take (leftN 2)) 1 true ++ [rootS Sha.shaS ([a, b].drop (leftN 2))]) ++ [rootS Sha.shaS [c]] = _
  rw [left2]
  show (partS Sha.shaS [a] 1 true ++ [rootS Sha.shaS [b]]) ++ [rootS Sha.shaS [c]] = _
  rw [partS_all Sha.shaS (by decide), rootS_one, rootS_one, rootS_one, lb_is, lc_is]
  rfl
theorem value_c : valueR Sha.shaS c 3 2 [ab].reverse = some root := by
  show valueR Sha.shaS c 3 2 [ab] = _
  unfold valueR
  rw [if_neg (by decide), left3, if_neg (by decide)]
  unfold valueR
  simp [lc_is, root_is]
theorem value_d : valueR Sha.shaS d 3 2 [ab].reverse = some rd := by
  show valueR Sha.shaS d 3 2 [ab] = _
  unfold valueR
  rw [if_neg (by decide), left3, if_neg (by decide)]
  unfold valueR
  simp [ld_is, rd_is]
theorem both_1 : bothR Sha.shaS la 1 3 true [lb, lc].reverse = some (la, root) := by
  show bothR Sha.shaS la 1 3 true [lc, lb] = _
  unfold bothR
  simp only [left3]
  unfold bothR
  simp only [left2]
  unfold bothR
  simp [ab_is, root_is]
theorem both_2 : bothR Sha.shaS ab 1 3 true [lb, lc].reverse = some (ab, w2) := by
  show bothR Sha.shaS ab 1 3 true [lc, lb] = _
  unfold bothR
  simp only [left3]
  unfold bothR
  simp only [left2]
  unfold bothR
  simp [w1_is, w2_is]
theorem root_ne_rd : rd ≠ root := by decide
theorem root_ne_w2 : w2 ≠ root := by decide
end Ex
end Go.Proofs.YtbaggjhjkignkaaDoor

