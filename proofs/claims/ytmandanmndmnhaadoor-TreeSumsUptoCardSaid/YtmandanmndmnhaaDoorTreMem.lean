/-
  Trees in memory under stores into other blocks; what one more kid leaves behind. No program is run here.
-/
import Derived.Test.YtmandanmndmnhaaDoorTreOwn
import Derived.Below
namespace Go.Proofs.YtmandanmndmnhaaDoor.Tre
open Tks Go.RowKit
set_option linter.unusedSimpArgs false
set_option linter.unusedVariables false

theorem heap_set {W : World} {p : Addr} {v : Value} {k : Nat} (h : k ≠ p.block) : (W.setCell p v).heap[k]? = W.heap[k]? := Below.heap_setCell _ _ _ _ h
def set6 (W : World) (B : Nat) (a b c d e f : Value) : World := (((((W.setCell ⟨B, 0, none⟩ a).setCell ⟨B, 1, none⟩ b).setCell ⟨B, 2, none⟩ c).setCell ⟨B, 3, none⟩ d).setCell ⟨B, 4, none⟩ e).setCell ⟨B, 5, none⟩ f
theorem set6_below {n B : Nat} {W W1 : World} (h : Below n W W1) (hB : n ≤ B) (a b c d e f : Value) : Below n W (set6 W1 B a b c d e f) :=
  (((((h.setCell (p := ⟨B, 0, none⟩) hB a).setCell (p := ⟨B, 1, none⟩) hB b).setCell (p := ⟨B, 2, none⟩) hB c).setCell (p := ⟨B, 3, none⟩) hB d).setCell (p := ⟨B, 4, none⟩) hB e).setCell (p := ⟨B, 5, none⟩) hB f
theorem set6_size (W : World) (B : Nat) (a b c d e f : Value) : (set6 W B a b c d e f).heap.size = W.heap.size := by
  unfold set6
  rw [World.size_setCell, World.size_setCell, World.size_setCell, World.size_setCell, World.size_setCell, World.size_setCell]
theorem set6_keep (W : World) {B k : Nat} (h : k ≠ B) (a b c d e f : Value) : (set6 W B a b c d e f).heap[k]? = W.heap[k]? := by
  unfold set6
  rw [heap_set h, heap_set h, heap_set h, heap_set h, heap_set h, heap_set h]
theorem KOn.set6 {W : World} {P : Nat → Prop} {v : Value} {k : Fo} (h : KOn W P v k) {B : Nat} (hP : ∀ b, P b → b ≠ B) (a b c d e f : Value) : KOn (set6 W B a b c d e f) P v k :=
  h.kept (by rw [set6_size]; exact Nat.le_refl _) (fun b hb hp => ⟨set6_keep W (hP b hp) .., hp⟩)
theorem KOn.set {W : World} {P : Nat → Prop} {v : Value} {k : Fo} (h : KOn W P v k) {p : Addr} (hP : ∀ b, P b → b ≠ p.block) (a : Value) : KOn (W.setCell p a) P v k :=
  h.kept (by rw [World.size_setCell]; exact Nat.le_refl _) (fun b hb hp => ⟨heap_set (hP b hp), hp⟩)
theorem own_set {w : World} {B size n : Nat} {e : TypeId} {v : Value} {xs : List Value} {a : Addr} (h : w.ownsRow B e size v n xs) (ha : a.block < B) (u : Value) : (w.setCell a u).ownsRow B e size v n xs :=
  ownsRow_setCell_below h ha u
theorem NdOwn.set {W : World} {B : Nat} {v : Value} {l : List Nv} (h : NdOwn W B v l) {p : Addr} (hp : p.block < B) (a : Value) : NdOwn (W.setCell p a) B v l :=
  ⟨own_set h.row hp a, fun x hx => (h.kid x hx).set (fun b hb e => by have := hb.1; omega) a⟩
theorem NdOwn.set6 {W : World} {B : Nat} {v : Value} {l : List Nv} (h : NdOwn W B v l) {b : Nat} (hp : b < B) (c0 c1 c2 c3 c4 c5 : Value) : NdOwn (set6 W b c0 c1 c2 c3 c4 c5) B v l :=
  (((((h.set (p := ⟨b, 0, none⟩) hp c0).set (p := ⟨b, 1, none⟩) hp c1).set (p := ⟨b, 2, none⟩) hp c2).set (p := ⟨b, 3, none⟩) hp c3).set (p := ⟨b, 4, none⟩) hp c4).set (p := ⟨b, 5, none⟩) hp c5
theorem Lies.other {W : World} {B : Nat} {o : Obj} (h : Lies W B o) {p : Addr} (hp : B ≠ p.block) (v : Value) : Lies (W.setCell p v) B o := (heap_set hp).trans h
theorem Lies.put {W : World} {B : Nat} {cs : Array Value} {t : TypeId} {fr : Nat × Nat} (h : Lies W B (.cells cs t fr)) (j : Nat) (u : Value) : Lies (W.setCell ⟨B, j, none⟩ u) B (.cells (cs.setIfInBounds j u) t fr) := by
  unfold Lies at h ⊢
  unfold World.setCell
  rw [Array.getElem?_modify, if_pos rfl, h]
  simp
theorem Lies.set5 {W : World} {B : Nat} {h : Hd} {vk : Value} (q : Lies W B (ndO h vk)) (v : Value) : Lies (W.setCell ⟨B, 5, none⟩ v) B (ndO h v) := Lies.put q 5 v
theorem Lies.set1 {W : World} {B : Nat} {h : Hd} {vk : Value} (q : Lies W B (ndO h vk)) (x : Int) : Lies (W.setCell ⟨B, 1, none⟩ (.int .i64 x)) B (ndO ⟨h.kind, x, h.text, h.line, h.col⟩ vk) := Lies.put q 1 _
theorem Lies.all6 {W : World} {B : Nat} {h : Hd} {vk : Value} (q : Lies W B (ndO h vk)) (g : Hd) (v : Value) : Lies (Tre.set6 W B (.int .i64 g.kind) (.int .i64 g.form) (.string g.text) (.int .i64 g.line) (.int .i64 g.col) v) B (ndO g v) := Lies.put (Lies.put (Lies.put (Lies.put (Lies.put (Lies.put q 0 _) 1 _) 2 _) 3 _) 4 _) 5 _
theorem Lies.free {W : World} {B : Nat} {cs : Array Value} {t : TypeId} (h : Lies W B (.cells cs t)) (j : Nat) : W.frozen? ⟨B, j, none⟩ = false := by simp [World.frozen?, show W.heap[B]? = _ from h]
theorem Lies.nodef {W : World} {B : Nat} {h : Hd} {vk : Value} (q : Lies W B (ndO h vk)) :
    (W.cell? ⟨B, 0, none⟩ = some (.int .i64 h.kind) ∧ W.cell? ⟨B, 1, none⟩ = some (.int .i64 h.form) ∧ W.cell? ⟨B, 2, none⟩ = some (.string h.text) ∧ W.cell? ⟨B, 3, none⟩ = some (.int .i64 h.line) ∧ W.cell? ⟨B, 4, none⟩ = some (.int .i64 h.col) ∧ W.cell? ⟨B, 5, none⟩ = some vk) ∧
    W.frozen? ⟨B, 0, none⟩ = false ∧ W.frozen? ⟨B, 1, none⟩ = false ∧ W.frozen? ⟨B, 2, none⟩ = false ∧ W.frozen? ⟨B, 3, none⟩ = false ∧ W.frozen? ⟨B, 4, none⟩ = false ∧ W.frozen? ⟨B, 5, none⟩ = false :=
  ⟨q.node, q.free 0, q.free 1, q.free 2, q.free 3, q.free 4, q.free 5⟩
theorem NdOwn.lt {w : World} {B : Nat} {v : Value} {l : List Nv} (h : NdOwn w B v l) {b : Nat} (e : v.ownBlock = some b) : B ≤ b ∧ b < w.heap.size := World.ownsRow.lt h.row b e
/-- A kid that a call has just made may be laid into the row. -/
theorem kid_ready {wr w6 W2 : World} {B0 : Nat} {av : Value} {acc : List Nv} {vk : Value} {k1 : Fo} (hO : NdOwn wr B0 av acc) (hB : B0 ≤ wr.heap.size) (hk : KOn w6 (fun b => wr.heap.size ≤ b) vk k1) (h2 : Below w6.heap.size w6 W2) : KOn W2 (fun b => B0 ≤ b ∧ av.ownBlock ≠ some b) vk k1 :=
  (hk.below h2 (Nat.le_refl _)).less (fun b hb => ⟨by omega, fun e => by have := (hO.lt e).2; omega⟩)
theorem grown_lies {W w3 : World} {B0 B : Nat} {av : Value} {acc : List Nv} {o : Obj} (hO : NdOwn W B0 av acc) (hg : W.grownBy w3 av.ownBlock) (hL : Lies W B o) (hB : B < B0) : Lies w3 B o :=
  (hg.block B hL.lt (fun e => by have := (hO.lt e.symm).1; omega)).trans hL
theorem grown_below {W w3 w : World} {C B0 : Nat} {av : Value} {acc : List Nv} (hb : Below C w W) (hC : C ≤ B0) (hB : B0 ≤ W.heap.size) (hO : NdOwn W B0 av acc) (hg : W.grownBy w3 av.ownBlock) : Below C w w3 :=
  Below.grown hb hg (by omega) (fun k hk => by have := (hO.lt hk).1; omega)
end Go.Proofs.YtmandanmndmnhaaDoor.Tre
