/-
  The fixed examples of the statements, on paper.
-/
import Derived.Test.YtcaclijkkbhfhaaGreatDoorFlD
import Derived.KernelRfl
namespace Go.Proofs.YtcaclijkkbhfhaaGreatDoor.Fl
open Go.Lib

def exHead : List UInt8 := [109, 111, 118, 101, 32, 53, 46, 46, 49, 48, 10, 115, 116, 101, 112, 32, 48, 32, 114, 101, 99, 105, 112, 101, 32, 49, 50, 32, 116, 111, 111, 108, 115, 32, 49, 44, 50, 32, 116, 105, 109, 101, 32, 49, 48, 46, 46, 50, 48, 32, 110, 101, 120, 116, 32, 49, 10]
def exTail : List UInt8 := [115, 116, 101, 112, 32, 49, 32, 114, 101, 99, 105, 112, 101, 32, 51, 32, 116, 111, 111, 108, 115, 32, 55, 32, 116, 105, 109, 101, 32, 53, 46, 46, 53, 32, 110, 101, 120, 116, 32, 45, 32, 98, 97, 99, 107, 32, 48, 32, 108, 105, 109, 105, 116, 32, 51, 10, 119, 105, 110, 100, 111, 119, 32, 48, 32, 49, 32, 54, 48, 10]
def exTail2 : List UInt8 := [115, 116, 101, 112, 32, 49, 32, 114, 101, 99, 105, 112, 101, 32, 51, 32, 116, 111, 111, 108, 115, 32, 55, 32, 116, 105, 109, 101, 32, 53, 46, 46, 53, 32, 110, 101, 120, 116, 32, 45, 10, 119, 105, 110, 100, 111, 119, 32, 48, 32, 50, 32, 54, 48]
def exTail3 : List UInt8 := [115, 116, 101, 112, 32, 50, 32, 114, 101, 99, 105, 112, 101, 32, 51, 32, 116, 111, 111, 108, 115, 32, 55, 32, 116, 105, 109, 101, 32, 53, 46, 46, 53, 32, 110, 101, 120, 116, 32, 45]
def exFlow : Flow := ⟨5, 10, [⟨12, [1, 2], 10, 20, [1], -1, 0⟩, ⟨3, [7], 5, 5, [], 0, 3⟩], [⟨0, 1, 60⟩]⟩
set_option maxRecDepth 100000 in
theorem ex_parse : parse (exHead ++ exTail) = .ok exFlow := by kernel_rfl
set_option maxRecDepth 100000 in
theorem ex_parse2 : parse ([35, 32, 120, 10] ++ exHead ++ exTail2) = .error 5 := by kernel_rfl
set_option maxRecDepth 100000 in
theorem ex_parse3 : parse (exHead ++ exTail3) = .error 3 := by kernel_rfl
theorem ex_parse4 : parse [] = .error 1 := by kernel_rfl
set_option maxRecDepth 100000 in
theorem ex_text : text exFlow = exHead ++ exTail := by kernel_rfl
theorem ex_valid : valid exFlow = true := by kernel_rfl
end Go.Proofs.YtcaclijkkbhfhaaGreatDoor.Fl
