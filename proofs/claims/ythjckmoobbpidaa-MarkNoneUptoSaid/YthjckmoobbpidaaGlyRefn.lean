/-
  The contract of the document's own Next, put together out of its ways. Condition: the string has at most 2^50 bytes.
-/
import Derived.Test.YthjckmoobbpidaaGlyRef
namespace Go.Proofs.Ythjckmoobbpidaa.Gly
open Go.RowKit
end Go.Proofs.Ythjckmoobbpidaa.Gly
