/-
  The contract of the statements' collide: where two strings at one place clash it returns true; under the contract of Sum.
-/
import Derived.Test.YtbaggjhjkignkaaDoorHelp
import Derived.Lib.Strings
namespace Go.Proofs.YtbaggjhjkignkaaDoor
open Go.RowKit Tree

end Go.Proofs.YtbaggjhjkignkaaDoor

