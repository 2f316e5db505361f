/-
  offsidelaw10's laws, as the tied cards ask for them: trees of weight at most 1048576. No program is run here.
-/
import Derived.Test.YtmandanmndmnhaaDoorTreLwa
import Derived.Test.YtmandanmndmnhaaDoorTreLwb
import Derived.Test.YtmandanmndmnhaaDoorTreLwc
import Derived.Test.YtmandanmndmnhaaDoorTreOpn
namespace Go.Proofs.YtmandanmndmnhaaDoor.Tre
open Tks Go.RowKit
set_option linter.unusedSimpArgs false
set_option linter.unusedVariables false

theorem shown_le (h : Hd) (k : Fo) (hw : h.text.size + 6 + wF k ≤ 1048576) : (nodeT h (showF k)).length ≤ 70368744177664 := by
  have h1 := node_le h (showF k)
  have h2 := show_le k
  omega
theorem counts_any (h : Hd) (k : Fo) (va : Value) (w : World) (ha : NdArg w va h k) (hw : h.text.size + 6 + wF k ≤ 1048576) :
    Calls Tryd.prog 4 #[va] w fun e w' => e = .returned (.bool true) ∧ Below w.heap.size w w' :=
  counts_walk h k va w ha (by have := size_le_w k; omega)
theorem shows_any (h : Hd) (k : Fo) (va : Value) (w : World) (ha : NdArg w va h k) (hw : h.text.size + 6 + wF k ≤ 1048576) :
    Calls Tryd.prog 5 #[va] w fun e w' => e = .returned (.bool true) ∧ Below w.heap.size w w' :=
  shows_walk h k va w ha (shown_le h k hw)
theorem back_any (h : Hd) (k : Fo) (va : Value) (w : World) (ha : NdArg w va h k) (hw : h.text.size + 6 + wF k ≤ 1048576) :
    Calls Tryd.prog 7 #[va] w fun e w' => e = .returned (.bool true) ∧ Below w.heap.size w w' :=
  back_walk h k va w ha (by have := size_le_w k; have := deep_le_size k; omega) (shown_le h k hw)
theorem reads_any (s : ByteArray) (hs : s.size ≤ 140737488351232) (w : World) :
    Calls Tryd.prog 6 #[.string s] w fun e w' => e = .returned (.bool true) ∧ Below w.heap.size w w' := reads_walk s w
theorem again_any (s : ByteArray) (hs : s.size ≤ 140737488351232) (w : World) :
    Calls Tryd.prog 8 #[.string s] w fun e w' => e = .returned (.bool true) ∧ Below w.heap.size w w' := again_walk s w
end Go.Proofs.YtmandanmndmnhaaDoor.Tre
