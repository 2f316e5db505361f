/-
  The document's own Next at a state that may not be. Conditions: at most 2^40 tokens and blocks.
-/
import Derived.Test.YtmcdclhfjjplnaaLayCls
namespace Go.Proofs.Ytmcdclhfjjplnaa.Lay
open Tks Mrk Go.RowKit
set_option linter.unusedSimpArgs false
set_option linter.unusedVariables false

theorem lie3 (w : World) (o1 o2 o3 : Obj) : Lies (((w.alloc o1).alloc o2).alloc o3) w.heap.size o1 ∧ Lies (((w.alloc o1).alloc o2).alloc o3) (w.heap.size + 1) o2 ∧ Lies (((w.alloc o1).alloc o2).alloc o3) (w.heap.size + 1 + 1) o3 := by
  refine ⟨(two_lie w o1 o2).1.alloc o3, (two_lie w o1 o2).2.alloc o3, ?_⟩
  have := Lies.new ((w.alloc o1).alloc o2) o3
  rwa [World.size_alloc, World.size_alloc] at this
theorem below3 (w : World) (o1 o2 o3 : Obj) : Below w.heap.size w (((w.alloc o1).alloc o2).alloc o3) := (below_two w o1 o2).alloc (below_two w o1 o2).size o3
theorem lies_tok {W : World} {B : Nat} {t : Tk} (h : Lies W B (tkO t)) :
    W.cell? ⟨B, 0, none⟩ = some (.int .i64 t.kind) ∧ W.cell? ⟨B, 1, none⟩ = some (.string t.text) ∧ W.cell? ⟨B, 2, none⟩ = some (.int .i64 t.line) ∧ W.cell? ⟨B, 3, none⟩ = some (.int .i64 t.col) ∧ W.frozen? ⟨B, 0, none⟩ = false ∧ W.frozen? ⟨B, 1, none⟩ = false ∧ W.frozen? ⟨B, 2, none⟩ = false ∧ W.frozen? ⟨B, 3, none⟩ = false :=
  ⟨(Lies.cell h 0).trans rfl, (Lies.cell h 1).trans rfl, (Lies.cell h 2).trans rfl, (Lies.cell h 3).trans rfl, Lies.free h 0, Lies.free h 1, Lies.free h 2, Lies.free h 3⟩
set_option maxRecDepth 1000000 in
set_option maxHeartbeats 4000000 in
theorem refnext_not (v : Value) (s : Sx) (w : World) (hv : StV w v s) (hf : Fit9 s) (hk : okB s = false) :
    Calls Try.prog 12 #[v] w (NextOut w s) := by
  have C1 : Hid (∀ W, Below w.heap.size w W → Calls Try.prog 23 #[v] W fun e w' => e = .returned (.bool false) ∧ Below W.heap.size W w') := fun W h => by
    have := refright_any v s W (hv.below h (Nat.le_refl _)) hf
    rw [hk] at this
    exact this
  have B0 : Hid (∀ o1 o2 o3 : Obj, Below w.heap.size w (((w.alloc o1).alloc o2).alloc o3)) := fun o1 o2 o3 => below3 w o1 o2 o3
  unfold NextOut nextS
  rw [if_neg (by rw [hk]; decide)]
  obtain ⟨vt, vo, rfl, ht, ho⟩ := hv
  obtain ⟨at1, ct1, rfl⟩ := ht.len
  obtain ⟨ao1, co1, rfl⟩ := ho.len
  clear ht ho hf hk
  go_enter Try.func12, Try.ntmps12
  go_wp2_with (first
    | (go_at_call 23; refine (C1.out _ (B0.out _ _ _)).mono ?_; rintro e w1 ⟨rfl, b1⟩; have L1 := Lib.hid ((lie3 w _ _ _).1.below b1 (by simp only [World.size_alloc]; omega)); have L2 : Hid (Lies w1 (w.heap.size + 1) (tkO zeroT)) := (lie3 w _ _ _).2.1.below b1 (by simp only [World.size_alloc]; omega); have L3 := Lib.hid ((lie3 w _ _ _).2.2.below b1 (by simp only [World.size_alloc]; omega)); have B1 := Lib.hid (afterL (B0.out _ _ _) b1); clear b1; obtain ⟨c0, c1, c2, c3, f0, f1, f2, f3⟩ := lies_tok L2.out; obtain ⟨k0, k1, k2, k3, j0, j1, j2, j3⟩ := L3.out.four))
  refine bodyPost_ret (by simp [results, Try.results12, go_sem, c0, c1, c2, c3, k0, k1, k2, k3]; try rfl) rfl ?_
  exact ⟨_, rfl, StV.zero _, set4_below (set4_below B1.out (by omega) _ _ _ _) (by omega) _ _ _ _⟩
end Go.Proofs.Ytmcdclhfjjplnaa.Lay
