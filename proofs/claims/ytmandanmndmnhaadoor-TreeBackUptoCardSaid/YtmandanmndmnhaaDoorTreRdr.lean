/-
  The program's reader: take. Conditions: texts of at most 2^24 bytes.
-/
import Derived.Test.YtmandanmndmnhaaDoorTreShq
import Derived.Test.YtmandanmndmnhaaDoorTreRea
import Derived.Lib.IndexBytes
namespace Go.Proofs.YtmandanmndmnhaaDoor.Tre
open Tks Go.RowKit
set_option linter.unusedSimpArgs false
set_option linter.unusedVariables false

/-- All blocks are as they were, but for R; there may be new ones. -/
structure Only (R : Nat) (w w' : World) : Prop where
  os : w'.os = w.os
  tape : w'.tape = w.tape
  output : w'.output = w.output
  size : w.heap.size ≤ w'.heap.size
  block : ∀ k, k < w.heap.size → k ≠ R → w'.heap[k]? = w.heap[k]?
theorem Only.refl (R : Nat) (w : World) : Only R w w := ⟨rfl, rfl, rfl, Nat.le_refl _, fun _ _ _ => rfl⟩
theorem Only.trans {R : Nat} {a b c : World} (h : Only R a b) (k : Only R b c) : Only R a c :=
  ⟨k.os.trans h.os, k.tape.trans h.tape, k.output.trans h.output, Nat.le_trans h.size k.size, fun j hj hs => (k.block j (Nat.lt_of_lt_of_le hj h.size) hs).trans (h.block j hj hs)⟩
theorem Only.of_below {R B : Nat} {w w' : World} (h : Below B w w') (hB : w.heap.size ≤ B) : Only R w w' := ⟨h.os, h.tape, h.output, h.size, fun k hk _ => h.block k (Nat.lt_of_lt_of_le hk hB)⟩
theorem Only.set {R : Nat} {w w' : World} (h : Only R w w') (j : Nat) (v : Value) : Only R w (w'.setCell ⟨R, j, none⟩ v) :=
  ⟨h.os, h.tape, h.output, by rw [World.size_setCell]; exact h.size, fun k hk hs => (heap_set hs).trans (h.block k hk hs)⟩
theorem Only.set' {R : Nat} {w w' : World} (h : Only R w w') {p : Addr} (hp : w.heap.size ≤ p.block) (v : Value) : Only R w (w'.setCell p v) :=
  ⟨h.os, h.tape, h.output, by rw [World.size_setCell]; exact h.size, fun k hk hs => (heap_set (by omega)).trans (h.block k hk hs)⟩
theorem Only.lies {R b : Nat} {w w' : World} {o : Obj} (h : Only R w w') (hl : Lies w b o) (hb : b ≠ R) : Lies w' b o := (h.block b hl.lt hb).trans hl
theorem Only.below {R n : Nat} {w0 w w' : World} (h : Only R w w') (hb : Below n w0 w) (hn : n ≤ w.heap.size) (hR : n ≤ R) : Below n w0 w' :=
  ⟨h.os.trans hb.os, h.tape.trans hb.tape, h.output.trans hb.output, Nat.le_trans hb.size h.size, fun k hk => (h.block k (by omega) (by omega)).trans (hb.block k hk)⟩
theorem Only.kon {R : Nat} {w w' : World} {P : Nat → Prop} {v : Value} {k : Fo} (h : Only R w w') (hk : KOn w P v k) (hP : ∀ b, P b → b ≠ R) : KOn w' P v k :=
  hk.kept h.size (fun b hb hp => ⟨h.block b hb (hP b hp), hp⟩)
theorem Only.own {R B : Nat} {w w' : World} {v : Value} {l : List Nv} (h : Only R w w') (ho : NdOwn w B v l) (hR : R < B) : NdOwn w' B v l := by
  refine ⟨?_, fun x hx => h.kon (ho.kid x hx) (fun b hb => by have := hb.1; omega)⟩
  have hg : w.grownBy w' (some R) := ⟨h.os, h.tape, h.output, h.size, fun k hk hs => h.block k hk (fun e => hs (by rw [e]))⟩
  rcases hv : v.ownBlock with _ | g
  · exact World.ownsRow.kept ho.row hg (.inl hv)
  · refine World.ownsRow.kept ho.row hg (.inr ?_)
    rw [hv]
    intro e
    injection e with e
    have := (ho.lt hv).1
    omega
/-- What is left to be read. -/
def Rd (w : World) (R : Nat) (t : ByteArray) : Prop := One w R (.string t) 55
theorem Rd.below {w w' : World} {R B : Nat} {t : ByteArray} (h : Rd w R t) (hb : Below B w w') (hB : R < B) : Rd w' R t := Lies.below h hb hB
theorem Rd.lt {w : World} {R : Nat} {t : ByteArray} (h : Rd w R t) : R < w.heap.size := Lies.lt h
theorem Rd.set {w : World} {R : Nat} {t : ByteArray} (h : Rd w R t) (u : ByteArray) : Rd (w.setCell ⟨R, 0, none⟩ (.string u)) R u := One.set h _
def toL (t : ByteArray) : List UInt8 := t.data.toList
theorem toL_len (t : ByteArray) : (toL t).length = t.size := by unfold toL; rw [Array.length_toList]; rfl
theorem toL_cut (t : ByteArray) (n : Nat) : toL (t.extract n t.size) = (toL t).drop n := Lib.extract_to_end t n
theorem toL_at (t : ByteArray) (h : 0 < t.size) : toL t = t[0] :: (toL t).drop 1 := by
  have := rest_cons t 0 h
  rw [rest_zero] at this
  unfold toL
  exact this
theorem cut_size (t : ByteArray) (n : Nat) : (t.extract n t.size).size = t.size - n := by
  rw [← toL_len, toL_cut, List.length_drop, toL_len]
def headIs (t : ByteArray) (c : UInt8) : Bool := decide ((toL t).head? = some c)
def after (t : ByteArray) (c : UInt8) : ByteArray := if (toL t).head? = some c then t.extract 1 t.size else t
theorem toL_after (t : ByteArray) (c : UInt8) : toL (after t c) = if (toL t).head? = some c then (toL t).drop 1 else toL t := by
  unfold after
  split
  · exact toL_cut t 1
  · rfl
theorem after_size (t : ByteArray) (c : UInt8) : (after t c).size ≤ t.size := by
  unfold after
  split
  · rw [cut_size]
    omega
  · exact Nat.le_refl _
set_option maxRecDepth 1000000 in
set_option maxHeartbeats 2000000 in
theorem take_any (t : ByteArray) (hs : t.size ≤ 16777216) (c : UInt8) (R : Nat) (w : World) (hr : Rd w R t) :
    Calls Tryd.prog 39 #[.pointer (some ⟨R, 0, none⟩), .int .u8 (c.toNat : Int)] w fun e w' => e = .returned (.bool (headIs t c)) ∧ Rd w' R (after t c) ∧ Only R w w' := by
  have c0 := hr.c0
  have f0 := hr.free0
  have HR := Lib.hid hr
  clear hr
  by_cases h1 : t.size = 0
  · have e0 : (t.toList == []) = true := by
      rw [Lib.toList_data, beq_iff_eq]
      exact List.eq_nil_of_length_eq_zero (by rw [← h1]; exact toL_len t)
    have hn : toL t = [] := List.eq_nil_of_length_eq_zero (by rw [toL_len]; exact h1)
    have HF : Hid (headIs t c = false ∧ after t c = t) := by
      unfold Hid headIs after
      rw [hn]
      exact ⟨rfl, rfl⟩
    clear hn h1
    go_enter Tryd.func39, Tryd.ntmps39
    go_wp2_with fail
    go_ret
    exact ⟨by rw [HF.out.1]; rfl, by rw [HF.out.2]; exact HR.out, Only.refl _ _⟩
  · have hpos : 0 < t.size := by omega
    have hl := toL_at t hpos
    have e0 : (t.toList == []) = false := by
      rw [Lib.toList_data, beq_eq_false_iff_ne]
      show ¬ toL t = []
      rw [hl]
      intro e
      cases e
    have i1 : (0 : Int) < (t.size : Int) := by omega
    have i2 : (1 : Int) ≤ (t.size : Int) := by omega
    by_cases h2 : t[0] = c
    · have e2 : (((t[0].toNat : Nat) : Int) != (c.toNat : Int)) = false := by rw [bne_eq_false_iff_eq, h2]
      have e2n : (t[0].toNat != c.toNat) = false := by rw [bne_eq_false_iff_eq, h2]
      have e2c : (t[0] != c) = false := by rw [bne_eq_false_iff_eq]; exact h2
      have HF : Hid (headIs t c = true ∧ after t c = t.extract 1 t.size) := by
        unfold Hid headIs after
        have : (toL t).head? = some c := by rw [hl, h2]; rfl
        rw [if_pos this]
        exact ⟨decide_eq_true this, rfl⟩
      clear hl h2 h1
      go_enter Tryd.func39, Tryd.ntmps39
      go_wp2_with fail
      go_ret
      exact ⟨by rw [HF.out.1]; rfl, by rw [HF.out.2]; exact HR.out.set _, (Only.refl _ _).set 0 _⟩
    · have e2 : (((t[0].toNat : Nat) : Int) != (c.toNat : Int)) = true := by
        rw [bne_iff_ne]
        intro e
        exact h2 (by rw [← byte_toNat t[0], ← byte_toNat c]; congr 1; omega)
      have HF : Hid (headIs t c = false ∧ after t c = t) := by
        unfold Hid headIs after
        have : ¬ (toL t).head? = some c := by
          rw [hl]
          intro e
          injection e with e
          exact h2 e
        rw [if_neg this]
        exact ⟨decide_eq_false this, rfl⟩
      clear hl h2 h1
      go_enter Tryd.func39, Tryd.ntmps39
      go_wp2_with fail
      go_ret
      exact ⟨by rw [HF.out.1]; rfl, by rw [HF.out.2]; exact HR.out, Only.refl _ _⟩
theorem takeZ (z : Int) (n : Nat) (hz : z = (n : Int)) (hn : n < 256) (t : ByteArray) (hs : t.size ≤ 16777216) (R : Nat) (w : World) (hr : Rd w R t) :
    Calls Tryd.prog 39 #[.pointer (some ⟨R, 0, none⟩), .int .u8 z] w fun e w' => e = .returned (.bool (headIs t (byte n))) ∧ Rd w' R (after t (byte n)) ∧ Only R w w' := by
  have := take_any t hs (byte n) R w hr
  rw [byte_nat n hn] at this
  rw [hz]
  exact this
end Go.Proofs.YtmandanmndmnhaaDoor.Tre
