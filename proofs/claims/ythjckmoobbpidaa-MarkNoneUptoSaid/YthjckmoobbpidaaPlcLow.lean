/-
  The contracts of the small functions of package place: newline, start, afterTab, past. Conditions: lengths and columns that are far from the greatest int.
-/
import Derived.Test.YthjckmoobbpidaaPlcMath
import Derived.Test.YthjckmoobbpidaaRows
import Derived.WalkKit
import Derived.RegionTactic
import Derived.BigQuiet
import Derived.Deep.RegionHeld3
import Derived.WalkLawsBesides
import Derived.WalkSpells
import Derived.Outline
import Derived.Lib.Hide
import Derived.Handy
namespace Go.Proofs.Ythjckmoobbpidaa.Plc
open Go.RowKit Gly
set_option linter.unusedSimpArgs false

end Go.Proofs.Ythjckmoobbpidaa.Plc
