/-
  offsidelaw10's TreeSums, as the tied card asks for it: kids of weight at most 1048576. No program is run here.
-/
import Derived.Test.YtmandanmndmnhaaDoorTreLwd
import Derived.Test.YtmandanmndmnhaaDoorTreOpn
namespace Go.Proofs.YtmandanmndmnhaaDoor.Tre
open Tks Go.RowKit
set_option linter.unusedSimpArgs false
set_option linter.unusedVariables false

theorem sums_any {p : Prop} (kind : Int) (k : Fo) (v : Value) (w : World) (hk : KArg w v k) (_ : p) (hw : wF k ≤ 1048576) :
    Calls Tryd.prog 9 #[.int .i64 kind, v] w fun e w' => e = .returned (.bool true) ∧ Below w.heap.size w w' :=
  sums_walk kind k v w hk (by have := size_le_w k; omega)
end Go.Proofs.YtmandanmndmnhaaDoor.Tre
