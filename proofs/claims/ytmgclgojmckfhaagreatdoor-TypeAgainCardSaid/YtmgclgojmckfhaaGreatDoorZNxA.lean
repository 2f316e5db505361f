/-
  The document's own Next, a round of its loop: neither a Begin nor a Line stands there. Conditions: at most 2^40 tokens and blocks.
-/
import Derived.Test.YtmgclgojmckfhaaGreatDoorZLayA
import Derived.Deep.CutRange
namespace Go.Proofs.YtmgclgojmckfhaaGreatDoor.Lay
open Tks Mrk Go.RowKit
set_option linter.unusedSimpArgs false
set_option linter.unusedVariables false

end Go.Proofs.YtmgclgojmckfhaaGreatDoor.Lay
/-
  The document's own Next, a round of its loop: a Begin, with Wait 0 or 1. Conditions: at most 2^40 tokens and blocks.
-/
namespace Go.Proofs.YtmgclgojmckfhaaGreatDoor.Lay
open Tks Mrk Go.RowKit
set_option linter.unusedSimpArgs false
set_option linter.unusedVariables false

end Go.Proofs.YtmgclgojmckfhaaGreatDoor.Lay
/-
  The document's own Next, a round of its loop: a mark with a token of its own. Conditions: at most 2^40 tokens and blocks.
-/
namespace Go.Proofs.YtmgclgojmckfhaaGreatDoor.Lay
open Tks Mrk Go.RowKit
set_option linter.unusedSimpArgs false
set_option linter.unusedVariables false

end Go.Proofs.YtmgclgojmckfhaaGreatDoor.Lay
/-
  The document's own Next, a round of its loop: a mark with a token of its own. Conditions: at most 2^40 tokens and blocks.
-/
namespace Go.Proofs.YtmgclgojmckfhaaGreatDoor.Lay
open Tks Mrk Go.RowKit
set_option linter.unusedSimpArgs false
set_option linter.unusedVariables false

end Go.Proofs.YtmgclgojmckfhaaGreatDoor.Lay
/-
  The document's own Next at any states. Conditions: at most 2^40 tokens and blocks.
-/
namespace Go.Proofs.YtmgclgojmckfhaaGreatDoor.Lay
open Tks Mrk Go.RowKit
set_option linter.unusedSimpArgs false
set_option linter.unusedVariables false

end Go.Proofs.YtmgclgojmckfhaaGreatDoor.Lay
/-
  The document's own Next and All at any states and rows. Conditions: at most 2^40 tokens and blocks; All at most 3000.
-/
namespace Go.Proofs.YtmgclgojmckfhaaGreatDoor.Lay
open Tks Mrk Go.RowKit
set_option linter.unusedSimpArgs false
set_option linter.unusedVariables false

end Go.Proofs.YtmgclgojmckfhaaGreatDoor.Lay
