/-
  offsidelaw08's laws MarkBack and MarkOnce, where the program's Opens, Mark and Bare do what is told of them by the structure Does. Conditions: at most 2^37 tokens, texts of at most 4294967280 bytes.
-/
import Derived.Test.YthjckmoobbpidaaMrkAwk
namespace Go.Proofs.Ythjckmoobbpidaa.Mrk
open Tks Go.RowKit
set_option linter.unusedSimpArgs false
set_option linter.unusedVariables false

theorem none_next {l : List Tk} {k : Nat} {t : Tk} (h : ∀ j x, j < k → l[j]? = some x → isMark x = false) (ht : l[k]? = some t) (hm : isMark t = false) : ∀ j x, j < k + 1 → l[j]? = some x → isMark x = false := by
  intro j x hj hx
  by_cases q : j = k
  · subst q
    rw [ht] at hx
    injection hx with hx
    rw [← hx]
    exact hm
  · exact h j x (by omega) hx
theorem none_all {l : List Tk} {k : Nat} (h : ∀ j x, j < k → l[j]? = some x → isMark x = false) (hk : ¬ k < l.length) : ∀ t ∈ l, isMark t = false := by
  intro t ht
  obtain ⟨j, hj⟩ := List.mem_iff_getElem?.1 ht
  exact h j t (by have := (List.getElem?_eq_some_iff.1 hj).1; omega) hj
set_option maxRecDepth 1000000 in
set_option maxHeartbeats 4000000 in
theorem back_walk (nl : ByteArray → Int) (M : World → Prop) (D : Does nl M) (v : Value) (l : List Tk) (w : World) (ha : TkArg w v l) (F : Small l) (hM : M w) :
    Calls Try.prog 6 #[v] w fun e w' => e = .returned (.bool true) ∧ Below w.heap.size w w' := by
  have C0 := Lib.hid (fun W h => awake_any nl M D W h)
  have KM : Hid (∀ W', Below w.heap.size w W' → M W') := fun W' h => D.keep w W' hM h
  obtain ⟨a, c, rfl⟩ := ha.len
  have C1 := Lib.hid (fun v W g h => D.mark v l W g h F)
  have C2 := Lib.hid (fun r W h => D.bare r (markL nl l) W h (by have := markL_len nl l; have := F.1; omega))
  have C3 := Lib.hid (fun va vb W h1 h2 => sameall_any va vb l W h1 h2 (Nat.le_trans F.1 (by decide)))
  have HM := Lib.hid F.1
  have HA := Lib.hid ha
  clear D F ha hM
  go_enter Try.func6, Try.ntmps6
  go_wp2_with (first
    | (go_at_call 9; refine (C0.out _ (KM.out _ (Below.refl _ _))).mono ?_; rintro e w1 ⟨rfl, hb1⟩; have B1 := Lib.hid hb1; have A1 := Lib.hid (HA.out.below hb1 (Nat.le_refl _)); clear hb1))
  go_loopw [4] (fun i wr => ∃ k : Nat, i = .int .i64 (k : Int) ∧ wr = w1 ∧ k ≤ l.length ∧ ∀ j x, j < k → l[j]? = some x → isMark x = false) (fun i _ => l.length - (intOf i).toNat)
  case atStart => exact ⟨0, rfl, rfl, by omega, fun j x hj => absurd hj (by omega)⟩
  case round =>
    obtain ⟨k, rfl, rfl, hk, hno⟩ := hrel
    have HNO := Lib.hid hno
    clear hno
    by_cases hp : k < l.length
    · obtain ⟨t, ht⟩ : ∃ t, l[k]? = some t := ⟨_, List.getElem?_eq_getElem hp⟩
      obtain ⟨ga, oa, ca, e1, h1, h2⟩ := A1.out.cells (by omega)
      simp only [Value.slice.injEq] at e1
      obtain ⟨rfl, -, rfl⟩ := e1
      have HI : Hid (TkIn wr ga oa l) := ⟨h1, h2⟩
      obtain ⟨a0, a1, a2, a3⟩ := HI.out.four k t ht
      have HW := Lib.hid (idx_at k l.length hp (Nat.le_trans HM.out (by decide)))
      have HT := Lib.hid ht
      have i0 : (0 : Int) ≤ (k : Int) := by omega
      have i1 : (k : Int) < (l.length : Int) := by omega
      clear ht h1 h2
      rcases mark_cases t with ⟨h1, h2⟩ | ⟨h1, h2⟩ | ⟨h1, h2, h3⟩
      · have x1 : (t.kind == 16) = true := by rw [beq_iff_eq]; exact h1
        clear h1 h2
        go_wp2_with fail
        go_ret
        exact ⟨rfl, B1.out⟩
      · have x1 : (t.kind == 16) = false := by rw [beq_eq_false_iff_ne, h1]; decide
        have x2 : (t.kind == 17) = true := by rw [beq_iff_eq]; exact h1
        clear h1 h2
        go_wp2_with fail
        go_ret
        exact ⟨rfl, B1.out⟩
      · have x1 : (t.kind == 16) = false := by rw [beq_eq_false_iff_ne]; exact h1
        have x2 : (t.kind == 17) = false := by rw [beq_eq_false_iff_ne]; exact h2
        have HN := Lib.hid (none_next HNO.out HT.out h3)
        clear h1 h2 h3
        go_wp2_with fail
        go_roundw
        case rel =>
          rw [HW.out]
          exact ⟨k + 1, by go_num, trivial, by omega, HN.out⟩
        case measure =>
          rw [HW.out]
          simp [intOf]
          omega
    · have HBM := Lib.hid (bare_mark nl l (none_all HNO.out hp))
      go_wp2_with (first
        | (go_at_call 13; refine (C1.out _ _ (KM.out _ B1.out) A1.out).mono ?_; rintro e w2 ⟨r2, rfl, hr2, hb2, -⟩; have B2 := Lib.hid (after B1.out hb2); have R2 := Lib.hid hr2; clear hb2 hr2)
        | (go_at_call 15; refine (C2.out _ _ R2.out).mono ?_; rintro e w3 ⟨r3, rfl, hr3, hb3, -⟩; rw [HBM.out] at hr3; have B3 := Lib.hid (after B2.out hb3); have R3 := Lib.hid hr3; have A3 := Lib.hid (HA.out.below B3.out (Nat.le_refl _)); clear hb3 hr3)
        | (go_at_call 12; refine (C3.out _ _ _ R3.out A3.out).mono ?_; rintro e w4 ⟨rfl, hb4⟩; have B4 := Lib.hid (after B3.out hb4); clear hb4))
      go_ret
      exact ⟨rfl, B4.out⟩
end Go.Proofs.Ythjckmoobbpidaa.Mrk
