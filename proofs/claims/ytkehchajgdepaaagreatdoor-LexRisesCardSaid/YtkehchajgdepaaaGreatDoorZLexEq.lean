/-
  The contracts of the document's own SameAll and SameNotes at two rows that hold the same. Condition: fewer than 2^40 elements.
-/
import Derived.Test.YtkehchajgdepaaaGreatDoorZLexOwn
import Derived.Test.YtkehchajgdepaaaGreatDoorZPlcA
import Derived.Deep.Draws
import Derived.Deep.QuietTactic
import Derived.BigQuiet
import Derived.LoopTactic
import Derived.Handy
namespace Go.Proofs.YtkehchajgdepaaaGreatDoor.Lx
open Go.RowKit Gly
set_option linter.unusedSimpArgs false
set_option linter.unusedVariables false

theorem own_len {w : World} {B size n : Nat} {e : TypeId} {v : Value} {xs : List Value} (h : w.ownsRow B e size v n xs) : ∃ a c, v = .slice a n c := by
  rcases h.2 with ⟨rfl, h0⟩ | ⟨g, cap, cur, rfl, _⟩
  · subst h0
    exact ⟨_, _, rfl⟩
  · exact ⟨_, _, rfl⟩
theorem tok_at {s : ByteArray} {w : World} {B g cap : Nat} {l : List It} (h : Toks s w B (.slice (some ⟨g, 0, none⟩) l.length cap) l) (k : Nat) (t : It) (ht : l[k]? = some t) :
    w.cell? ⟨g, k * 4, none⟩ = some (.int .i64 t.kind) ∧ w.cell? ⟨g, k * 4 + 1, none⟩ = some (.string (txt s t)) ∧ w.cell? ⟨g, k * 4 + 2, none⟩ = some (.int .i64 (lineS s t.fr)) ∧ w.cell? ⟨g, k * 4 + 3, none⟩ = some (.int .i64 (colS s t.fr)) :=
  ⟨h.cell k 0 t ht (by omega), h.cell k 1 t ht (by omega), h.cell k 2 t ht (by omega), h.cell k 3 t ht (by omega)⟩
theorem note_at {s : ByteArray} {w : World} {B g cap : Nat} {l : List Nt} (h : Notes s w B (.slice (some ⟨g, 0, none⟩) l.length cap) l) (k : Nat) (t : Nt) (ht : l[k]? = some t) :
    w.cell? ⟨g, k * 5, none⟩ = some (.string (txt s t.it)) ∧ w.cell? ⟨g, k * 5 + 1, none⟩ = some (.int .i64 ((t.gap : Nat) : Int)) ∧ w.cell? ⟨g, k * 5 + 2, none⟩ = some (.int .i64 t.pl) ∧ w.cell? ⟨g, k * 5 + 3, none⟩ = some (.int .i64 (lineS s t.it.fr)) ∧ w.cell? ⟨g, k * 5 + 4, none⟩ = some (.int .i64 (colS s t.it.fr)) :=
  ⟨h.cell k 0 t ht (by omega), h.cell k 1 t ht (by omega), h.cell k 2 t ht (by omega), h.cell k 3 t ht (by omega), h.cell k 4 t ht (by omega)⟩

theorem step_in (k n : Nat) (hk : k ≤ n) (hm : n ≤ 1099511627776) : wrap64 ((k : Int) + 1) = (k : Int) + 1 := by
  have h1 : (k : Int) ≤ 1099511627776 := by omega
  have h2 : (0 : Int) ≤ (k : Int) := by omega
  generalize (k : Int) = z at h1 h2 ⊢
  unfold wrap64
  omega
set_option maxRecDepth 100000 in
set_option maxHeartbeats 2000000 in
theorem sameall_any (s : ByteArray) (va vb : Value) (ba bb : Nat) (l : List It) (w : World) (ha : Toks s w ba va l) (hb : Toks s w bb vb l) (hm : l.length ≤ 1099511627776) :
    Calls Tryz.prog 11 #[va, vb] w fun e w' => e = .returned (.bool true) ∧ Below w.heap.size w w' := by
  have HM := Lib.hid hm
  clear hm
  by_cases hL : 0 < l.length
  · obtain ⟨ga, ca, rfl, _, _⟩ := ha.form hL
    obtain ⟨gb, cb, rfl, _, _⟩ := hb.form hL
    have HA := Lib.hid ha
    have HB := Lib.hid hb
    clear ha hb
    go_enter Tryz.func11, Tryz.ntmps11
    go_wp2_with fail
    go_loopw [5] (fun i wr => ∃ (k n : Nat), i = .int .i64 (k : Int) ∧ wr = w.drewN n ∧ k ≤ l.length) (fun i _ => l.length - (intOf i).toNat)
    case atStart => exact ⟨0, 0, rfl, rfl, by omega⟩
    case round =>
      obtain ⟨k, n, rfl, rfl, hk⟩ := hrel
      by_cases hp : k < l.length
      · obtain ⟨t, ht⟩ : ∃ t, l[k]? = some t := ⟨_, List.getElem?_eq_getElem hp⟩
        obtain ⟨a0, a1, a2, a3⟩ := tok_at HA.out k t ht
        obtain ⟨b0, b1, b2, b3⟩ := tok_at HB.out k t ht
        generalize txt s t = x at *
        generalize t.kind = kd at *
        generalize lineS s t.fr = ln at *
        generalize colS s t.fr = cl at *
        have hw : wrap64 ((k : Int) + 1) = (k : Int) + 1 := step_in k l.length hk HM.out
        clear ht
        have i0 : (0 : Int) ≤ (k : Int) := by omega
        have i1 : (k : Int) < (l.length : Int) := by omega
        go_wp2_with fail
        go_quiet (fail)
        go_wp2_with fail
        go_roundw
        case rel =>
          rw [hw]
          clear hw
          exact ⟨k + 1, _, by go_num, rfl, by omega⟩
        case measure =>
          rw [hw]
          clear hw
          simp [intOf]
          omega
      · go_wp2_with fail
        go_ret
        exact ⟨rfl, Plc.below_drewN (Below.refl _ _) n⟩
  · obtain ⟨pa, ca, rfl⟩ := own_len ha
    obtain ⟨pb, cb, rfl⟩ := own_len hb
    have hz : l.length = 0 := by omega
    rw [hz]
    clear ha hb hz hL HM
    go_enter Tryz.func11, Tryz.ntmps11
    go_wp2_with fail
    go_loopw [5] (fun i wr => i = .int .i64 0 ∧ wr = w) (fun _ _ => 0)
    case atStart => exact ⟨rfl, rfl⟩
    case round =>
      obtain ⟨rfl, rfl⟩ := hrel
      go_wp2_with fail
      go_ret
      exact ⟨rfl, Below.refl _ _⟩

set_option maxRecDepth 100000 in
set_option maxHeartbeats 2000000 in
theorem samenotes_any (s : ByteArray) (va vb : Value) (ba bb : Nat) (l : List Nt) (w : World) (ha : Notes s w ba va l) (hb : Notes s w bb vb l) (hm : l.length ≤ 1099511627776) :
    Calls Tryz.prog 12 #[va, vb] w fun e w' => e = .returned (.bool true) ∧ Below w.heap.size w w' := by
  have HM := Lib.hid hm
  clear hm
  by_cases hL : 0 < l.length
  · obtain ⟨ga, ca, rfl, _, _⟩ := ha.form hL
    obtain ⟨gb, cb, rfl, _, _⟩ := hb.form hL
    have HA := Lib.hid ha
    have HB := Lib.hid hb
    clear ha hb
    go_enter Tryz.func12, Tryz.ntmps12
    go_wp2_with fail
    go_loopw [5] (fun i wr => ∃ (k n : Nat), i = .int .i64 (k : Int) ∧ wr = w.drewN n ∧ k ≤ l.length) (fun i _ => l.length - (intOf i).toNat)
    case atStart => exact ⟨0, 0, rfl, rfl, by omega⟩
    case round =>
      obtain ⟨k, n, rfl, rfl, hk⟩ := hrel
      by_cases hp : k < l.length
      · obtain ⟨t, ht⟩ : ∃ t, l[k]? = some t := ⟨_, List.getElem?_eq_getElem hp⟩
        obtain ⟨a0, a1, a2, a3, a4⟩ := note_at HA.out k t ht
        obtain ⟨b0, b1, b2, b3, b4⟩ := note_at HB.out k t ht
        generalize txt s t.it = x at *
        generalize ((t.gap : Nat) : Int) = gp at *
        generalize t.pl = pl at *
        generalize lineS s t.it.fr = ln at *
        generalize colS s t.it.fr = cl at *
        have hw : wrap64 ((k : Int) + 1) = (k : Int) + 1 := step_in k l.length hk HM.out
        clear ht
        have i0 : (0 : Int) ≤ (k : Int) := by omega
        have i1 : (k : Int) < (l.length : Int) := by omega
        go_wp2_with fail
        go_quiet (fail)
        go_wp2_with fail
        go_roundw
        case rel =>
          rw [hw]
          clear hw
          exact ⟨k + 1, _, by go_num, rfl, by omega⟩
        case measure =>
          rw [hw]
          clear hw
          simp [intOf]
          omega
      · go_wp2_with fail
        go_ret
        exact ⟨rfl, Plc.below_drewN (Below.refl _ _) n⟩
  · obtain ⟨pa, ca, rfl⟩ := own_len ha
    obtain ⟨pb, cb, rfl⟩ := own_len hb
    have hz : l.length = 0 := by omega
    rw [hz]
    clear ha hb hz hL HM
    go_enter Tryz.func12, Tryz.ntmps12
    go_wp2_with fail
    go_loopw [5] (fun i wr => i = .int .i64 0 ∧ wr = w) (fun _ _ => 0)
    case atStart => exact ⟨rfl, rfl⟩
    case round =>
      obtain ⟨rfl, rfl⟩ := hrel
      go_wp2_with fail
      go_ret
      exact ⟨rfl, Below.refl _ _⟩
end Go.Proofs.YtkehchajgdepaaaGreatDoor.Lx
