/-
  The contract of the document's own decimal. Condition: the number is at most 1114111.
-/
import Derived.Test.YtdppfhgihoibnaaDoorQtRby
import Derived.Test.YtdppfhgihoibnaaDoorQtWrt
namespace Go.Proofs.YtdppfhgihoibnaaDoor.Qt
open Go.RowKit Gly
open Go.Lib (decDigits)
set_option linter.unusedSimpArgs false
set_option linter.unusedVariables false

theorem digs_at : ∀ n : Nat, n < 10 → (⟨#[48, 49, 50, 51, 52, 53, 54, 55, 56, 57]⟩ : ByteArray).extract n (n + 1) = ⟨#[UInt8.ofNat (48 + n)]⟩ := by decide +kernel
theorem refdec_small (n : Nat) (hn : n < 10) (d : UInt8) (hx : (⟨#[48, 49, 50, 51, 52, 53, 54, 55, 56, 57]⟩ : ByteArray).extract n (n + 1) = ⟨#[d]⟩) (w : World) :
    Calls Tryd.prog 32 #[.int .i64 (n : Int)] w fun e w' => e = .returned (.string ⟨#[d]⟩) ∧ Below w.heap.size w w' := by
  have x0 : decide ((n : Int) < 10) = true := decide_eq_true (by omega)
  go_enter Tryd.func32, Tryd.ntmps32
  go_wp2_with fail
  go_ret
  exact ⟨rfl, Below.refl _ _⟩
theorem refdec_large (n m r : Nat) (D : List UInt8) (d : UInt8) (hx : (⟨#[48, 49, 50, 51, 52, 53, 54, 55, 56, 57]⟩ : ByteArray).extract r (r + 1) = ⟨#[d]⟩) (hD : D.length ≤ 7) (hn : 10 ≤ n) (hn2 : n ≤ 1114111) (hm : (n : Int) / 10 = (m : Int)) (hr : (n : Int) % 10 = (r : Int)) (hr10 : r < 10)
    (C : Hid (∀ W, Calls Tryd.prog 32 #[.int .i64 (m : Int)] W fun e w' => e = .returned (.string ⟨D.toArray⟩) ∧ Below W.heap.size W w')) (w : World) :
    Calls Tryd.prog 32 #[.int .i64 (n : Int)] w fun e w' => e = .returned (.string ⟨(D ++ [d]).toArray⟩) ∧ Below w.heap.size w w' := by
  have x0 : decide ((n : Int) < 10) = false := decide_eq_false (by omega)
  have ht : (n : Int).tdiv 10 = (m : Int) := by rw [Int.tdiv_eq_ediv_of_nonneg (by omega)]; exact hm
  have hu : (n : Int).tmod 10 = (r : Int) := by rw [Int.tmod_eq_emod_of_nonneg (by omega)]; exact hr
  have w1 : IntKind.i64.wrap (m : Int) = (m : Int) := IntWalk.i64_in _ (by omega)
  have w2 : IntKind.i64.wrap ((r : Int) + 1) = (r : Int) + 1 := IntWalk.i64_in _ (by omega)
  have w3 : IntKind.i64.wrap (r : Int) = (r : Int) := IntWalk.i64_in _ (by omega)
  have ha : ∀ W, (Op.stringOp .add ⟨D.toArray⟩ ⟨#[d]⟩).run Tryd.prog W = .ok (.string ⟨(D ++ [d]).toArray⟩) W := fun W => add_bytes D [d] (by simp; omega) W
  obtain ⟨DA, hDA⟩ : ∃ DA : ByteArray, (⟨D.toArray⟩ : ByteArray) = DA := ⟨_, rfl⟩
  obtain ⟨DB, hDB⟩ : ∃ DB : ByteArray, (⟨(D ++ [d]).toArray⟩ : ByteArray) = DB := ⟨_, rfl⟩
  rw [hDA] at C ha
  rw [hDB] at ha ⊢
  clear hDA hDB hD
  go_enter Tryd.func32, Tryd.ntmps32
  go_wp2_with fail
  go_region_with (go_at_call 32; refine (C.out _).mono ?_; rintro e w1 ⟨rfl, hb1⟩; have HB := Lib.hid hb1; clear hb1)
  all_goals simp only [Act.put, List.getElem_toArray, List.getElem_cons_succ, List.getElem_cons_zero, List.setIfInBounds_toArray, List.set_cons_zero, List.set_cons_succ]
  all_goals go_wp2_with fail
  all_goals go_ret
  all_goals exact ⟨rfl, (below_drewN (Below.refl _ _) 1).trans HB.out⟩
theorem refdec_any : ∀ (n : Nat), n ≤ 1114111 → ∀ w : World, Calls Tryd.prog 32 #[.int .i64 (n : Int)] w fun e w' => e = .returned (.string ⟨(decDigits n).toArray⟩) ∧ Below w.heap.size w w' := by
  intro n
  induction n using Nat.strongRecOn with
  | ind n ih =>
    intro hn w
    rw [decDigits]
    by_cases h : n < 10
    · rw [dif_pos h]
      exact refdec_small n h _ (digs_at n h) w
    · rw [dif_neg h]
      exact refdec_large n (n / 10) (n % 10) _ _ (digs_at _ (by omega)) (dec_len _ (by omega)) (by omega) hn (by omega) (by omega) (by omega) (fun W => ih (n / 10) (by omega) (by omega) W) w
end Go.Proofs.YtdppfhgihoibnaaDoor.Qt
