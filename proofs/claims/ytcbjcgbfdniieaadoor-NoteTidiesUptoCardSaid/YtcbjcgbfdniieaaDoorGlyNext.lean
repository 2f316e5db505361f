/-
  Nothing but imports: this program has no call of glyph.Next.
-/
import Derived.Test.YtcbjcgbfdniieaaDoorGlyMath
import Derived.Test.YtcbjcgbfdniieaaDoorRows
import Derived.WalkKit
import Derived.LoopTactic
import Derived.Laws.RangeAny
import Derived.WalkLawsBesides
import Derived.WalkSpells
import Derived.Outline
namespace Go.Proofs.YtcbjcgbfdniieaaDoor.Gly
open Go.RowKit
set_option linter.unusedSimpArgs false

end Go.Proofs.YtcbjcgbfdniieaaDoor.Gly
