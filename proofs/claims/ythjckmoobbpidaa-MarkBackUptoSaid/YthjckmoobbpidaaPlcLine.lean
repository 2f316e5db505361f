/-
  The contracts of place.Lines, of the document's own Lines, and of Same at equal lists. Condition: the string has at most 2^40 bytes.
-/
import Derived.Test.YthjckmoobbpidaaPlcCut
import Derived.Test.YthjckmoobbpidaaPlcCode
import Derived.OwnWalk
import Derived.Laws.OwnMore
import Derived.Deep.AppendLies
namespace Go.Proofs.Ythjckmoobbpidaa.Plc
open Go.RowKit Gly
set_option linter.unusedSimpArgs false

theorem infoStr : (Try.prog.info? 9).map (fun i => (i.zero, i.size, i.bytes)) = some (some (.string ⟨#[]⟩), 1, 16) := by kernel_rfl
theorem own_ne_iter {w : World} {base k : Nat} {e : TypeId} {size n : Nat} {v : Value} {xs : List Value} {s : ByteArray} {p : Nat} (h : w.ownsRow base e size v n xs) (hk : w.heap[k]? = some (.stringIter s p)) : v.ownBlock ≠ some k := by
  rcases h.2 with ⟨rfl, _⟩ | ⟨g, cap, cur, rfl, _, hg, _⟩
  · simp [Value.ownBlock]
  · intro he
    have : g = k := by simpa [Value.ownBlock] using he
    subst this
    rw [hk] at hg
    cases hg
theorem own_iter {w w' : World} {base k : Nat} {e : TypeId} {size n : Nat} {v : Value} {xs : List Value} {s : ByteArray} {p : Nat} (h : w.ownsRow base e size v n xs) (hk : w.heap[k]? = some (.stringIter s p))
    (ho : ∀ j, j ≠ k → w'.heap[j]? = w.heap[j]?) : w'.ownsRow base e size v n xs := by
  have hne := own_ne_iter h hk
  refine ⟨h.1, ?_⟩
  rcases h.2 with hn | ⟨g, cap, cur, rfl, hb, hg, rest⟩
  · exact .inl hn
  · refine .inr ⟨g, cap, cur, rfl, hb, ?_, rest⟩
    rw [ho g (fun e => hne (by rw [e]; rfl))]
    exact hg

/-- A list of texts in memory of the call's own. -/
def Texts (w : World) (base : Nat) (v : Value) (L : List ByteArray) : Prop := w.ownsRow base 9 1 v L.length (L.map Value.string)
theorem Texts.push {w : World} {base : Nat} {v : Value} {L : List ByteArray} {x : ByteArray} (h : w.ownsRow base 9 1 v (L.length + 1) (L.map Value.string ++ [.string x])) : Texts w base v (L ++ [x]) := by
  unfold Texts
  rw [List.length_append, List.map_append]
  exact h

theorem after_push {w W2 w3 : World} {B : Nat} {v v' : Value} {L : List ByteArray} {x : ByteArray} {o : Obj} (own2 : Texts W2 B v L) (hb2 : Below B w W2) (hBw : B ≤ W2.heap.size)
    (hown' : w3.ownsRow B 9 1 v' (L.length + 1) (L.map Value.string ++ [.string x])) (hgrow : (W2.alloc o).grownBy w3 v.ownBlock) : Texts w3 B v' (L ++ [x]) ∧ Below B w w3 := by
  refine ⟨Texts.push hown', (hb2.alloc hBw o).grown hgrow ?_ (fun k hk => (own2.lt k hk).1)⟩
  rw [World.size_alloc]
  omega
theorem push_iter {W2 w3 : World} {k : Nat} {e : TypeId} {base size n : Nat} {xs : List Value} {v : Value} {o : Obj} {s : ByteArray} {p : Nat} (own2 : W2.ownsRow base e size v n xs) (it : W2.heap[k]? = some (.stringIter s p)) (hgrow : (W2.alloc o).grownBy w3 v.ownBlock) : w3.heap[k]? = some (.stringIter s p) := by
  have hk := lt_of_block it
  rw [hgrow.block k (by rw [World.size_alloc]; omega) (fun e => own_ne_iter own2 it e.symm), Below.heap_alloc _ _ _ hk]
  exact it

end Go.Proofs.Ythjckmoobbpidaa.Plc
