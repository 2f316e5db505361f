/-
  The numbers by which the contract of strings.Join is taken at this program are among those of the other functions of the library. No condition.
-/
import Derived.Shelf.Strings.OnBuilder
import Derived.Test.YtmgclgojmckfhaaGreatDoorShf
namespace Go.Proofs
end Go.Proofs
