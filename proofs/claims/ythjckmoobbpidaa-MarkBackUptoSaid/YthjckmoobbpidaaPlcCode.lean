/-
  The contracts of place.Width and place.Of. Condition: the string has at most 2^50 bytes.
-/
import Derived.Test.YthjckmoobbpidaaPlcLow
import Derived.Test.YthjckmoobbpidaaPlcRef
import Derived.Lib.OthersKept
import Derived.LoopTactic
import Derived.Laws.RangeAny
import Derived.Deep.DrawnRows
import Derived.Deep.RegionWith
import Derived.Deep.QuietTactic
import Derived.BigQuiet
namespace Go.Proofs.Ythjckmoobbpidaa.Plc
open Go.RowKit Gly
set_option linter.unusedSimpArgs false
attribute [local go_sem ↓] Go.wp_at_zero Go.wp_at_succ

theorem below_drewN {B : Nat} {a w : World} (h : Below B a w) (n : Nat) : Below B a (w.drewN n) := ⟨h.os, h.tape, h.output, h.size, h.block⟩
theorem iterPos_of {w : World} {k : Nat} {s : ByteArray} {n : Nat} (h : w.heap[k]? = some (.stringIter s n)) : w.iterPos k = n := by simp [World.iterPos, h]
theorem next_in {w wr : World} {B k : Nat} {s : ByteArray} {p : Nat} (hk : wr.heap[k]? = some (.stringIter s p)) (hB : Below B w wr) (hBk : B ≤ k) (hp : p < s.size) :
    ∃ W2, (∀ ty, (Instr.next (.pointer (some ⟨k, 0, none⟩)) true ty).run Try.prog wr = .ok (.tuple #[.bool true, .int .i64 (p : Int), .int .i32 (((Utf8.decode s p).1 : Nat) : Int)]) W2) ∧
      W2.heap[k]? = some (.stringIter s (p + (Utf8.decode s p).2)) ∧ Below B w W2 ∧ W2.heap.size = wr.heap.size ∧ (∀ j, j ≠ k → W2.heap[j]? = wr.heap[j]?) :=
  ⟨wr.iterAt k s (p + (Utf8.decode s p).2), fun ty => Lib.run_next_any_at wr k s p ty hk hp, Lib.iterAt_heap _ _ _ _ _ hk, Lib.below_iterAt hB hBk _ _, Lib.iterAt_size _ _ _ _, fun _ hj => Lib.iterAt_other _ _ _ _ _ hj⟩

theorem two_other {w : World} {g j : Nat} {u v : Value} (hj : j ≠ g) : ((w.setCell ⟨g, 0, none⟩ u).setCell ⟨g, 1, none⟩ v).heap[j]? = w.heap[j]? := by
  rw [Below.heap_setCell _ _ _ _ hj, Below.heap_setCell _ _ _ _ hj]

theorem start_iter (w1 : World) (s : ByteArray) (o : Obj) : ((w1.alloc o).iter s 0).heap[w1.heap.size + 1]? = some (.stringIter s 0) := by
  have := World.iter_heap (w1.alloc o) s 0
  simpa using this
end Go.Proofs.Ythjckmoobbpidaa.Plc
