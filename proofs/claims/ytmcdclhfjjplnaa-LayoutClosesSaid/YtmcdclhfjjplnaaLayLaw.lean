/-
  Stage 9's six laws of any argument, the program's functions doing what they do. No condition.
-/
import Derived.Test.YtmcdclhfjjplnaaLayAny
import Derived.Test.YtmcdclhfjjplnaaLayNes
import Derived.Test.YtmcdclhfjjplnaaLayGos
import Derived.Test.YtmcdclhfjjplnaaLayOpn
import Derived.Test.YtmcdclhfjjplnaaLayDoa
namespace Go.Proofs.Ytmcdclhfjjplnaa.Lay
open Tks Mrk Go.RowKit
theorem nexts_all (v : Value) (s : Sx) (w : World) (hv : StV w v s) : Calls Try.prog 3 #[v] w fun e w' => e = .returned (.bool true) ∧ Below w.heap.size w w' := nexts_walk does9 refnext_any v s w hv
theorem closes_all (v : Value) (s : Sx) (w : World) (hv : StV w v s) : Calls Try.prog 4 #[v] w fun e w' => e = .returned (.bool true) ∧ Below w.heap.size w w' := closes_walk does9 v s w hv
theorem goes_all (v : Value) (s : Sx) (w : World) (hv : StV w v s) : Calls Try.prog 8 #[v] w fun e w' => e = .returned (.bool true) ∧ Below w.heap.size w w' := goes_walk does9 v s w hv
theorem alls_all (v : Value) (l : List Tk) (w : World) (hv : TkArg w v l) : Calls Try.prog 5 #[v] w fun e w' => e = .returned (.bool true) ∧ Below w.heap.size w w' := alls_walk does9 refall9 v l w hv
theorem keeps_all9 (v : Value) (l : List Tk) (w : World) (hv : TkArg w v l) : Calls Try.prog 6 #[v] w fun e w' => e = .returned (.bool true) ∧ Below w.heap.size w w' := keeps_walk does9 v l w hv
theorem nests_all9 (v : Value) (l : List Tk) (w : World) (hv : TkArg w v l) : Calls Try.prog 7 #[v] w fun e w' => e = .returned (.bool true) ∧ Below w.heap.size w w' := nests_walk does9 v l w hv
end Go.Proofs.Ytmcdclhfjjplnaa.Lay
