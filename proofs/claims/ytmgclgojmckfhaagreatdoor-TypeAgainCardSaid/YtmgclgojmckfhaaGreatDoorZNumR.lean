/-
  The contracts of package number's readLettered, read, whole, Scan, and of the document's own Scan, whole, parts. Condition: the string has at most 2^50 bytes.
-/
import Derived.Test.YtmgclgojmckfhaaGreatDoorZNumE
import Derived.Deep.RegionWith
import Derived.Deep.DrawnRows
import Derived.Deep.QuietTactic
import Derived.BigQuiet
import Derived.Deep.Cut
namespace Go.Proofs.YtmgclgojmckfhaaGreatDoor.Num
open Go.RowKit Gly
set_option linter.unusedSimpArgs false
set_option linter.unusedVariables false

def nlC (r : Nl) : Array Value := #[.int .i64 (r.kind : Int), .int .i64 (r.base : Int), .int .i64 (r.beg : Int), .int .i64 (r.point : Int), .int .i64 (r.mant : Int), .int .i64 (r.fin : Int)]
/-- A block that holds a numeral. -/
def Six (w : World) (g : Nat) (a b c d e f : Int) : Prop := w.heap[g]? = some (.cells #[.int .i64 a, .int .i64 b, .int .i64 c, .int .i64 d, .int .i64 e, .int .i64 f] 113 (0, 0))
section
variable {w : World} {g : Nat} {a b c d e f : Int}
theorem Six.c0 (h : Six w g a b c d e f) : w.cell? ⟨g, 0, none⟩ = some (.int .i64 a) := by rw [cell_of_row w g 0 _ _ _ h]; rfl
theorem Six.c1 (h : Six w g a b c d e f) : w.cell? ⟨g, 1, none⟩ = some (.int .i64 b) := by rw [cell_of_row w g 1 _ _ _ h]; rfl
theorem Six.c2 (h : Six w g a b c d e f) : w.cell? ⟨g, 2, none⟩ = some (.int .i64 c) := by rw [cell_of_row w g 2 _ _ _ h]; rfl
theorem Six.c3 (h : Six w g a b c d e f) : w.cell? ⟨g, 3, none⟩ = some (.int .i64 d) := by rw [cell_of_row w g 3 _ _ _ h]; rfl
theorem Six.c4 (h : Six w g a b c d e f) : w.cell? ⟨g, 4, none⟩ = some (.int .i64 e) := by rw [cell_of_row w g 4 _ _ _ h]; rfl
theorem Six.c5 (h : Six w g a b c d e f) : w.cell? ⟨g, 5, none⟩ = some (.int .i64 f) := by rw [cell_of_row w g 5 _ _ _ h]; rfl
theorem Six.free (h : Six w g a b c d e f) (i : Nat) : w.frozen? ⟨g, i, none⟩ = false := by unfold Six at h; simp [World.frozen?, h]
theorem Six.lt (h : Six w g a b c d e f) : g < w.heap.size := lt_of_block h
theorem Six.below {B : Nat} {w' : World} (h : Six w g a b c d e f) (hb : Below B w w') (hg : g < B) : Six w' g a b c d e f := (hb.block g hg).trans h
theorem Six.new (w : World) (a b c d e f : Int) : Six (w.alloc (.cells #[.int .i64 a, .int .i64 b, .int .i64 c, .int .i64 d, .int .i64 e, .int .i64 f] 113)) w.heap.size a b c d e f := heap_alloc_new w _
theorem Six.store {w0 : World} {B : Nat} (h : Six w g a b c d e f) (hb : Below B w0 w) (hg : B ≤ g) (a' b' c' d' e' f' : Int) :
    Six ((((((w.setCell ⟨g, 0, none⟩ (.int .i64 a')).setCell ⟨g, 1, none⟩ (.int .i64 b')).setCell ⟨g, 2, none⟩ (.int .i64 c')).setCell ⟨g, 3, none⟩ (.int .i64 d')).setCell ⟨g, 4, none⟩ (.int .i64 e')).setCell ⟨g, 5, none⟩ (.int .i64 f')) g a' b' c' d' e' f' ∧
    Below B w0 ((((((w.setCell ⟨g, 0, none⟩ (.int .i64 a')).setCell ⟨g, 1, none⟩ (.int .i64 b')).setCell ⟨g, 2, none⟩ (.int .i64 c')).setCell ⟨g, 3, none⟩ (.int .i64 d')).setCell ⟨g, 4, none⟩ (.int .i64 e')).setCell ⟨g, 5, none⟩ (.int .i64 f')) := by
  refine ⟨?_, (((((hb.setCell (by exact hg) _).setCell (by exact hg) _).setCell (by exact hg) _).setCell (by exact hg) _).setCell (by exact hg) _).setCell (by exact hg) _⟩
  unfold Six at h ⊢
  simp [World.setCell, Array.getElem?_modify, h]
end

theorem readLettered_any (s : ByteArray) (hs : s.size ≤ 1125899906842624) (w : World) :
    Calls Tryz.prog 100 #[.string s] w fun e w' => e = .returned (.agg (nlC (lettL s.data.toList))) ∧ Below w.heap.size w w' := by
  have he : lettL s.data.toList = if 0 < run (lett s.data.toList) (rest s 2) then ⟨11, lett s.data.toList, 2, 0, 0, 2 + run (lett s.data.toList) (rest s 2)⟩ else Nl.none := rfl
  have hl : lett s.data.toList = if bt s.data.toList 0 = 48 then letter (bt s.data.toList 1) else 0 := rfl
  by_cases h0 : s.size < 2
  · have hz : lettL s.data.toList = Nl.none := by
      rw [he, if_neg]
      rw [rest_nil s 2 (by omega)]
      simp [run]
    rw [hz]
    have x0 : decide ((s.size : Int) < 2) = true := decide_eq_true (by omega)
    clear he hl hz
    go_enter Tryz.func100, Tryz.ntmps100
    go_wp2_with fail
    go_returns
    exact ⟨rfl, (Below.refl _ _).alloc (Nat.le_refl _) _⟩
  have x0 : decide ((s.size : Int) < 2) = false := decide_eq_false (by omega)
  rw [bt_in s 0 (by omega), bt_in s 1 (by omega)] at hl
  by_cases h1 : s[0].toNat = 48
  · have y0 : (((s[0].toNat : Nat) : Int) != 48) = false := by rw [bne_eq_false_iff_eq]; omega
    rw [if_pos h1] at hl
    have C : Hid (∀ W, _) := fun W => letterBase_any s[1].toNat W
    rw [← hl] at C
    have D : Hid (∀ W, _) := fun W => digitsEnd_any s 2 (lett s.data.toList) hs (by omega) W
    have tn := Six.new w 0 0 0 0 0 0
    generalize lett s.data.toList = b at *
    generalize run b (rest s 2) = k at *
    clear hl
    by_cases h2 : 0 < k
    · rw [if_pos h2] at he
      rw [he]
      have z0 : (((2 + k : Nat) : Int) == 2) = false := by rw [beq_eq_false_iff_ne]; omega
      clear he
      go_enter Tryz.func100, Tryz.ntmps100
      go_wp2_with fail
      refine (C.out _).mono ?_
      rintro e w1 ⟨rfl, rfl⟩
      go_wp2_with fail
      refine (D.out _).mono ?_
      rintro e w1 ⟨rfl, hb1⟩
      have T1 : Hid (Six w1 w.heap.size 0 0 0 0 0 0) := tn.below hb1 tn.lt
      have HB1 : Hid (Below w.heap.size w w1) := ((Below.refl _ _).alloc (Nat.le_refl _) _).trans (hb1.mono (by rw [World.size_alloc]; omega))
      have y0 := T1.out.free 0
      have y1 := T1.out.free 1
      have y2 := T1.out.free 2
      have y3 := T1.out.free 3
      have y4 := T1.out.free 4
      have y5 := T1.out.free 5
      have q0 := T1.out.c0
      have q1 := T1.out.c1
      have q2 := T1.out.c2
      have q3 := T1.out.c3
      have q4 := T1.out.c4
      have q5 := T1.out.c5
      clear hb1 tn
      go_wp2_with fail
      obtain ⟨t2, b2⟩ := T1.out.store HB1.out (Nat.le_refl _) 11 (b : Int) 2 0 0 (2 + (k : Int))
      have T2 := Lib.hid t2
      have B2 := Lib.hid b2
      clear t2 b2 q0 q1 q2 q3 q4 q5 y0 y1 y2 y3 y4 y5
      generalize ((((((w1.setCell ⟨w.heap.size, 0, none⟩ (.int .i64 11)).setCell ⟨w.heap.size, 1, none⟩ (.int .i64 (b : Int))).setCell ⟨w.heap.size, 2, none⟩ (.int .i64 2)).setCell ⟨w.heap.size, 3, none⟩ (.int .i64 0)).setCell ⟨w.heap.size, 4, none⟩ (.int .i64 0)).setCell ⟨w.heap.size, 5, none⟩ (.int .i64 (2 + (k : Int)))) = W3 at *
      have z0 := T2.out.c0
      have z1 := T2.out.c1
      have z2 := T2.out.c2
      have z3 := T2.out.c3
      have z4 := T2.out.c4
      have z5 := T2.out.c5
      refine bodyPost_ret (by simp [results, Tryz.results100, go_sem, z0, z1, z2, z3, z4, z5]; try rfl) rfl ?_
      exact ⟨rfl, B2.out⟩
    · rw [if_neg h2] at he
      rw [he]
      obtain rfl : k = 0 := by omega
      clear he
      go_enter Tryz.func100, Tryz.ntmps100
      go_wp2_with fail
      refine (C.out _).mono ?_
      rintro e w1 ⟨rfl, rfl⟩
      go_wp2_with fail
      refine (D.out _).mono ?_
      rintro e w1 ⟨rfl, hb1⟩
      have T1 : Hid (Six w1 w.heap.size 0 0 0 0 0 0) := tn.below hb1 tn.lt
      have HB1 : Hid (Below w.heap.size w w1) := ((Below.refl _ _).alloc (Nat.le_refl _) _).trans (hb1.mono (by rw [World.size_alloc]; omega))
      have y0 := T1.out.free 0
      have y1 := T1.out.free 1
      have y2 := T1.out.free 2
      have y3 := T1.out.free 3
      have y4 := T1.out.free 4
      have y5 := T1.out.free 5
      have q0 := T1.out.c0
      have q1 := T1.out.c1
      have q2 := T1.out.c2
      have q3 := T1.out.c3
      have q4 := T1.out.c4
      have q5 := T1.out.c5
      clear hb1 tn
      go_wp2_with fail
      obtain ⟨t2, b2⟩ := T1.out.store HB1.out (Nat.le_refl _) 0 0 0 0 0 0
      have T2 := Lib.hid t2
      have B2 := Lib.hid b2
      clear t2 b2 q0 q1 q2 q3 q4 q5 y0 y1 y2 y3 y4 y5
      generalize ((((((w1.setCell ⟨w.heap.size, 0, none⟩ (.int .i64 0)).setCell ⟨w.heap.size, 1, none⟩ (.int .i64 0)).setCell ⟨w.heap.size, 2, none⟩ (.int .i64 0)).setCell ⟨w.heap.size, 3, none⟩ (.int .i64 0)).setCell ⟨w.heap.size, 4, none⟩ (.int .i64 0)).setCell ⟨w.heap.size, 5, none⟩ (.int .i64 0)) = W3 at *
      have z0 := T2.out.c0
      have z1 := T2.out.c1
      have z2 := T2.out.c2
      have z3 := T2.out.c3
      have z4 := T2.out.c4
      have z5 := T2.out.c5
      refine bodyPost_ret (by simp [results, Tryz.results100, go_sem, z0, z1, z2, z3, z4, z5]; try rfl) rfl ?_
      exact ⟨rfl, B2.out⟩
  · have y0 : (((s[0].toNat : Nat) : Int) != 48) = true := by rw [bne_iff_ne]; omega
    rw [if_neg h1] at hl
    have hz : lettL s.data.toList = Nl.none := by
      rw [he, hl, run_small 0 (by omega), if_neg (by omega)]
    rw [hz]
    clear he hl hz h1
    go_enter Tryz.func100, Tryz.ntmps100
    go_wp2_with fail
    go_returns
    exact ⟨rfl, (Below.refl _ _).alloc (Nat.le_refl _) _⟩

-- READ --
theorem read_lett (s : ByteArray) (a b c d e f : Int) (ha : (a != 0) = true) (C0 : Hid (∀ W, Calls Tryz.prog 100 #[.string s] W fun e' w' => e' = .returned (.agg #[.int .i64 a, .int .i64 b, .int .i64 c, .int .i64 d, .int .i64 e, .int .i64 f]) ∧ Below W.heap.size W w')) (w : World) :
    Calls Tryz.prog 77 #[.string s] w fun e' w' => e' = .returned (.agg #[.int .i64 a, .int .i64 b, .int .i64 c, .int .i64 d, .int .i64 e, .int .i64 f]) ∧ Below w.heap.size w w' := by
  have tn := Six.new w 0 0 0 0 0 0
  go_enter Tryz.func77, Tryz.ntmps77
  go_wp2_with fail
  refine (C0.out _).mono ?_
  rintro e1 w2 ⟨rfl, hb2⟩
  have Z2 : Hid (Six w2 w.heap.size 0 0 0 0 0 0) := tn.below hb2 tn.lt
  have B2 : Hid (Below w.heap.size w w2) := ((Below.refl _ _).alloc (Nat.le_refl _) _).trans (hb2.mono (by rw [World.size_alloc]; omega))
  have L2 : Hid (w.heap.size < w2.heap.size) := Z2.out.lt
  clear hb2
  have ZW : Hid (Six (w2.alloc (.cells #[.int .i64 a, .int .i64 b, .int .i64 c, .int .i64 d, .int .i64 e, .int .i64 f] 113)) w.heap.size 0 0 0 0 0 0) := Z2.out.below ((Below.refl _ _).alloc (Nat.le_refl _) _) Z2.out.lt
  have BW : Hid (Below w.heap.size w (w2.alloc (.cells #[.int .i64 a, .int .i64 b, .int .i64 c, .int .i64 d, .int .i64 e, .int .i64 f] 113))) := B2.out.alloc (Nat.le_of_lt L2.out) _
  have NW : Hid (Six (w2.alloc (.cells #[.int .i64 a, .int .i64 b, .int .i64 c, .int .i64 d, .int .i64 e, .int .i64 f] 113)) w2.heap.size a b c d e f) := Six.new w2 a b c d e f
  have lw : Hid (w2.heap.size < (w2.alloc (.cells #[.int .i64 a, .int .i64 b, .int .i64 c, .int .i64 d, .int .i64 e, .int .i64 f] 113)).heap.size) := NW.out.lt
  have y0 := NW.out.c0
  have y1 := NW.out.c1
  have y2 := NW.out.c2
  have y3 := NW.out.c3
  have y4 := NW.out.c4
  have y5 := NW.out.c5
  have z0 := ZW.out.free 0
  have z1 := ZW.out.free 1
  have z2 := ZW.out.free 2
  have z3 := ZW.out.free 3
  have z4 := ZW.out.free 4
  have z5 := ZW.out.free 5
  have x0 := ZW.out.c0
  have x1 := ZW.out.c1
  have x2 := ZW.out.c2
  have x3 := ZW.out.c3
  have x4 := ZW.out.c4
  have x5 := ZW.out.c5
  go_wp2_with fail
  obtain ⟨t9, b9⟩ := ZW.out.store BW.out (Nat.le_refl _) a b c d e f
  have T9 := Lib.hid t9
  have B9 := Lib.hid b9
  clear t9 b9
  generalize (((((((w2.alloc (.cells #[.int .i64 a, .int .i64 b, .int .i64 c, .int .i64 d, .int .i64 e, .int .i64 f] 113)).setCell ⟨w.heap.size, 0, none⟩ (.int .i64 a)).setCell ⟨w.heap.size, 1, none⟩ (.int .i64 b)).setCell ⟨w.heap.size, 2, none⟩ (.int .i64 c)).setCell ⟨w.heap.size, 3, none⟩ (.int .i64 d)).setCell ⟨w.heap.size, 4, none⟩ (.int .i64 e)).setCell ⟨w.heap.size, 5, none⟩ (.int .i64 f)) = W3 at T9 B9 ⊢
  have v0 := T9.out.c0
  have v1 := T9.out.c1
  have v2 := T9.out.c2
  have v3 := T9.out.c3
  have v4 := T9.out.c4
  have v5 := T9.out.c5
  refine bodyPost_ret (by simp [results, Tryz.results77, go_sem, v0, v1, v2, v3, v4, v5]; try rfl) rfl ?_
  exact ⟨rfl, B9.out⟩
theorem read_none (s : ByteArray) (C0 : Hid (∀ W, Calls Tryz.prog 100 #[.string s] W fun e' w' => e' = .returned (.agg #[.int .i64 0, .int .i64 0, .int .i64 0, .int .i64 0, .int .i64 0, .int .i64 0]) ∧ Below W.heap.size W w')) (D : Hid (∀ W, Calls Tryz.prog 101 #[.string s, .int .i64 0, .int .i64 10] W fun e' w' => e' = .returned (.int .i64 0) ∧ Below W.heap.size W w')) (w : World) :
    Calls Tryz.prog 77 #[.string s] w fun e' w' => e' = .returned (.agg #[.int .i64 0, .int .i64 0, .int .i64 0, .int .i64 0, .int .i64 0, .int .i64 0]) ∧ Below w.heap.size w w' := by
  have tn := Six.new w 0 0 0 0 0 0
  go_enter Tryz.func77, Tryz.ntmps77
  go_wp2_with fail
  refine (C0.out _).mono ?_
  rintro e1 w2 ⟨rfl, hb2⟩
  have Z2 : Hid (Six w2 w.heap.size 0 0 0 0 0 0) := tn.below hb2 tn.lt
  have B2 : Hid (Below w.heap.size w w2) := ((Below.refl _ _).alloc (Nat.le_refl _) _).trans (hb2.mono (by rw [World.size_alloc]; omega))
  have L2 : Hid (w.heap.size < w2.heap.size) := Z2.out.lt
  clear hb2
  have ZW : Hid (Six (w2.alloc (.cells #[.int .i64 0, .int .i64 0, .int .i64 0, .int .i64 0, .int .i64 0, .int .i64 0] 113)) w.heap.size 0 0 0 0 0 0) := Z2.out.below ((Below.refl _ _).alloc (Nat.le_refl _) _) Z2.out.lt
  have BW : Hid (Below w.heap.size w (w2.alloc (.cells #[.int .i64 0, .int .i64 0, .int .i64 0, .int .i64 0, .int .i64 0, .int .i64 0] 113))) := B2.out.alloc (Nat.le_of_lt L2.out) _
  have NW : Hid (Six (w2.alloc (.cells #[.int .i64 0, .int .i64 0, .int .i64 0, .int .i64 0, .int .i64 0, .int .i64 0] 113)) w2.heap.size 0 0 0 0 0 0) := Six.new w2 0 0 0 0 0 0
  have lw : Hid (w2.heap.size < (w2.alloc (.cells #[.int .i64 0, .int .i64 0, .int .i64 0, .int .i64 0, .int .i64 0, .int .i64 0] 113)).heap.size) := NW.out.lt
  have y0 := NW.out.c0
  have y1 := NW.out.c1
  have y2 := NW.out.c2
  have y3 := NW.out.c3
  have y4 := NW.out.c4
  have y5 := NW.out.c5
  go_wp2_with fail
  refine (D.out _).mono ?_
  rintro e3 w3 ⟨rfl, hb3⟩
  have Z3 : Hid (Six w3 w.heap.size 0 0 0 0 0 0) := ZW.out.below hb3 ZW.out.lt
  have B3 : Hid (Below w.heap.size w w3) := BW.out.trans (hb3.mono BW.out.size)
  clear hb3
  have z0 := Z3.out.free 0
  have z1 := Z3.out.free 1
  have z2 := Z3.out.free 2
  have z3 := Z3.out.free 3
  have z4 := Z3.out.free 4
  have z5 := Z3.out.free 5
  have x0 := Z3.out.c0
  have x1 := Z3.out.c1
  have x2 := Z3.out.c2
  have x3 := Z3.out.c3
  have x4 := Z3.out.c4
  have x5 := Z3.out.c5
  go_wp2_with fail
  obtain ⟨t9, b9⟩ := Z3.out.store B3.out (Nat.le_refl _) 0 0 0 0 0 0
  have T9 := Lib.hid t9
  have B9 := Lib.hid b9
  clear t9 b9
  generalize ((((((w3.setCell ⟨w.heap.size, 0, none⟩ (.int .i64 0)).setCell ⟨w.heap.size, 1, none⟩ (.int .i64 0)).setCell ⟨w.heap.size, 2, none⟩ (.int .i64 0)).setCell ⟨w.heap.size, 3, none⟩ (.int .i64 0)).setCell ⟨w.heap.size, 4, none⟩ (.int .i64 0)).setCell ⟨w.heap.size, 5, none⟩ (.int .i64 0)) = W3 at T9 B9 ⊢
  have v0 := T9.out.c0
  have v1 := T9.out.c1
  have v2 := T9.out.c2
  have v3 := T9.out.c3
  have v4 := T9.out.c4
  have v5 := T9.out.c5
  refine bodyPost_ret (by simp [results, Tryz.results77, go_sem, v0, v1, v2, v3, v4, v5]; try rfl) rfl ?_
  exact ⟨rfl, B9.out⟩
theorem read_dec (s : ByteArray) (p m q k : Int) (hp : (p == 0) = false) (hk : k = if p < q then 12 else 11) (C0 : Hid (∀ W, Calls Tryz.prog 100 #[.string s] W fun e' w' => e' = .returned (.agg #[.int .i64 0, .int .i64 0, .int .i64 0, .int .i64 0, .int .i64 0, .int .i64 0]) ∧ Below W.heap.size W w')) (D : Hid (∀ W, Calls Tryz.prog 101 #[.string s, .int .i64 0, .int .i64 10] W fun e' w' => e' = .returned (.int .i64 p) ∧ Below W.heap.size W w'))
    (E : Hid (∀ W, Calls Tryz.prog 102 #[.string s, .int .i64 p] W fun e' w' => e' = .returned (.int .i64 m) ∧ Below W.heap.size W w'))
    (F : Hid (∀ W, Calls Tryz.prog 103 #[.string s, .int .i64 m] W fun e' w' => e' = .returned (.int .i64 q) ∧ Below W.heap.size W w')) (w : World) :
    Calls Tryz.prog 77 #[.string s] w fun e' w' => e' = .returned (.agg #[.int .i64 k, .int .i64 10, .int .i64 0, .int .i64 p, .int .i64 m, .int .i64 q]) ∧ Below w.heap.size w w' := by
  have tn := Six.new w 0 0 0 0 0 0
  by_cases hpq : p < q
  · rw [if_pos hpq] at hk
    subst hk
    go_enter Tryz.func77, Tryz.ntmps77
    go_wp2_with fail
    refine (C0.out _).mono ?_
    rintro e1 w2 ⟨rfl, hb2⟩
    have Z2 : Hid (Six w2 w.heap.size 0 0 0 0 0 0) := tn.below hb2 tn.lt
    have B2 : Hid (Below w.heap.size w w2) := ((Below.refl _ _).alloc (Nat.le_refl _) _).trans (hb2.mono (by rw [World.size_alloc]; omega))
    have L2 : Hid (w.heap.size < w2.heap.size) := Z2.out.lt
    clear hb2
    have ZW : Hid (Six (w2.alloc (.cells #[.int .i64 0, .int .i64 0, .int .i64 0, .int .i64 0, .int .i64 0, .int .i64 0] 113)) w.heap.size 0 0 0 0 0 0) := Z2.out.below ((Below.refl _ _).alloc (Nat.le_refl _) _) Z2.out.lt
    have BW : Hid (Below w.heap.size w (w2.alloc (.cells #[.int .i64 0, .int .i64 0, .int .i64 0, .int .i64 0, .int .i64 0, .int .i64 0] 113))) := B2.out.alloc (Nat.le_of_lt L2.out) _
    have NW : Hid (Six (w2.alloc (.cells #[.int .i64 0, .int .i64 0, .int .i64 0, .int .i64 0, .int .i64 0, .int .i64 0] 113)) w2.heap.size 0 0 0 0 0 0) := Six.new w2 0 0 0 0 0 0
    have lw : Hid (w2.heap.size < (w2.alloc (.cells #[.int .i64 0, .int .i64 0, .int .i64 0, .int .i64 0, .int .i64 0, .int .i64 0] 113)).heap.size) := NW.out.lt
    have y0 := NW.out.c0
    have y1 := NW.out.c1
    have y2 := NW.out.c2
    have y3 := NW.out.c3
    have y4 := NW.out.c4
    have y5 := NW.out.c5
    go_wp2_with fail
    refine (D.out _).mono ?_
    rintro e3 w3 ⟨rfl, hb3⟩
    have Z3 : Hid (Six w3 w.heap.size 0 0 0 0 0 0) := ZW.out.below hb3 ZW.out.lt
    have B3 : Hid (Below w.heap.size w w3) := BW.out.trans (hb3.mono BW.out.size)
    clear hb3
    clear y0 y1 y2 y3 y4 y5
    go_wp2_with fail
    refine (E.out _).mono ?_
    rintro e4 w4 ⟨rfl, hb4⟩
    have Z4 : Hid (Six w4 w.heap.size 0 0 0 0 0 0) := Z3.out.below hb4 Z3.out.lt
    have B4 : Hid (Below w.heap.size w w4) := B3.out.trans (hb4.mono B3.out.size)
    clear hb4
    go_wp2_with fail
    refine (F.out _).mono ?_
    rintro e5 w5 ⟨rfl, hb5⟩
    have Z5 : Hid (Six w5 w.heap.size 0 0 0 0 0 0) := Z4.out.below hb5 Z4.out.lt
    have B5 : Hid (Below w.heap.size w w5) := B4.out.trans (hb5.mono B4.out.size)
    clear hb5
    have z0 := Z5.out.free 0
    have z1 := Z5.out.free 1
    have z2 := Z5.out.free 2
    have z3 := Z5.out.free 3
    have z4 := Z5.out.free 4
    have z5 := Z5.out.free 5
    have x0 := Z5.out.c0
    have x1 := Z5.out.c1
    have x2 := Z5.out.c2
    have x3 := Z5.out.c3
    have x4 := Z5.out.c4
    have x5 := Z5.out.c5
    go_wp2_with fail
    obtain ⟨t9, b9⟩ := Z5.out.store B5.out (Nat.le_refl _) 12 10 0 p m q
    have T9 := Lib.hid t9
    have B9 := Lib.hid b9
    clear t9 b9
    generalize ((((((w5.setCell ⟨w.heap.size, 0, none⟩ (.int .i64 12)).setCell ⟨w.heap.size, 1, none⟩ (.int .i64 10)).setCell ⟨w.heap.size, 2, none⟩ (.int .i64 0)).setCell ⟨w.heap.size, 3, none⟩ (.int .i64 p)).setCell ⟨w.heap.size, 4, none⟩ (.int .i64 m)).setCell ⟨w.heap.size, 5, none⟩ (.int .i64 q)) = W3 at T9 B9 ⊢
    have v0 := T9.out.c0
    have v1 := T9.out.c1
    have v2 := T9.out.c2
    have v3 := T9.out.c3
    have v4 := T9.out.c4
    have v5 := T9.out.c5
    refine bodyPost_ret (by simp [results, Tryz.results77, go_sem, v0, v1, v2, v3, v4, v5]; try rfl) rfl ?_
    exact ⟨rfl, B9.out⟩
  · rw [if_neg hpq] at hk
    subst hk
    go_enter Tryz.func77, Tryz.ntmps77
    go_wp2_with fail
    refine (C0.out _).mono ?_
    rintro e1 w2 ⟨rfl, hb2⟩
    have Z2 : Hid (Six w2 w.heap.size 0 0 0 0 0 0) := tn.below hb2 tn.lt
    have B2 : Hid (Below w.heap.size w w2) := ((Below.refl _ _).alloc (Nat.le_refl _) _).trans (hb2.mono (by rw [World.size_alloc]; omega))
    have L2 : Hid (w.heap.size < w2.heap.size) := Z2.out.lt
    clear hb2
    have ZW : Hid (Six (w2.alloc (.cells #[.int .i64 0, .int .i64 0, .int .i64 0, .int .i64 0, .int .i64 0, .int .i64 0] 113)) w.heap.size 0 0 0 0 0 0) := Z2.out.below ((Below.refl _ _).alloc (Nat.le_refl _) _) Z2.out.lt
    have BW : Hid (Below w.heap.size w (w2.alloc (.cells #[.int .i64 0, .int .i64 0, .int .i64 0, .int .i64 0, .int .i64 0, .int .i64 0] 113))) := B2.out.alloc (Nat.le_of_lt L2.out) _
    have NW : Hid (Six (w2.alloc (.cells #[.int .i64 0, .int .i64 0, .int .i64 0, .int .i64 0, .int .i64 0, .int .i64 0] 113)) w2.heap.size 0 0 0 0 0 0) := Six.new w2 0 0 0 0 0 0
    have lw : Hid (w2.heap.size < (w2.alloc (.cells #[.int .i64 0, .int .i64 0, .int .i64 0, .int .i64 0, .int .i64 0, .int .i64 0] 113)).heap.size) := NW.out.lt
    have y0 := NW.out.c0
    have y1 := NW.out.c1
    have y2 := NW.out.c2
    have y3 := NW.out.c3
    have y4 := NW.out.c4
    have y5 := NW.out.c5
    go_wp2_with fail
    refine (D.out _).mono ?_
    rintro e3 w3 ⟨rfl, hb3⟩
    have Z3 : Hid (Six w3 w.heap.size 0 0 0 0 0 0) := ZW.out.below hb3 ZW.out.lt
    have B3 : Hid (Below w.heap.size w w3) := BW.out.trans (hb3.mono BW.out.size)
    clear hb3
    clear y0 y1 y2 y3 y4 y5
    go_wp2_with fail
    refine (E.out _).mono ?_
    rintro e4 w4 ⟨rfl, hb4⟩
    have Z4 : Hid (Six w4 w.heap.size 0 0 0 0 0 0) := Z3.out.below hb4 Z3.out.lt
    have B4 : Hid (Below w.heap.size w w4) := B3.out.trans (hb4.mono B3.out.size)
    clear hb4
    go_wp2_with fail
    refine (F.out _).mono ?_
    rintro e5 w5 ⟨rfl, hb5⟩
    have Z5 : Hid (Six w5 w.heap.size 0 0 0 0 0 0) := Z4.out.below hb5 Z4.out.lt
    have B5 : Hid (Below w.heap.size w w5) := B4.out.trans (hb5.mono B4.out.size)
    clear hb5
    have z0 := Z5.out.free 0
    have z1 := Z5.out.free 1
    have z2 := Z5.out.free 2
    have z3 := Z5.out.free 3
    have z4 := Z5.out.free 4
    have z5 := Z5.out.free 5
    have x0 := Z5.out.c0
    have x1 := Z5.out.c1
    have x2 := Z5.out.c2
    have x3 := Z5.out.c3
    have x4 := Z5.out.c4
    have x5 := Z5.out.c5
    go_wp2_with fail
    obtain ⟨t9, b9⟩ := Z5.out.store B5.out (Nat.le_refl _) 11 10 0 p m q
    have T9 := Lib.hid t9
    have B9 := Lib.hid b9
    clear t9 b9
    generalize ((((((w5.setCell ⟨w.heap.size, 0, none⟩ (.int .i64 11)).setCell ⟨w.heap.size, 1, none⟩ (.int .i64 10)).setCell ⟨w.heap.size, 2, none⟩ (.int .i64 0)).setCell ⟨w.heap.size, 3, none⟩ (.int .i64 p)).setCell ⟨w.heap.size, 4, none⟩ (.int .i64 m)).setCell ⟨w.heap.size, 5, none⟩ (.int .i64 q)) = W3 at T9 B9 ⊢
    have v0 := T9.out.c0
    have v1 := T9.out.c1
    have v2 := T9.out.c2
    have v3 := T9.out.c3
    have v4 := T9.out.c4
    have v5 := T9.out.c5
    refine bodyPost_ret (by simp [results, Tryz.results77, go_sem, v0, v1, v2, v3, v4, v5]; try rfl) rfl ?_
    exact ⟨rfl, B9.out⟩
theorem read_any (s : ByteArray) (hs : s.size ≤ 1125899906842624) (w : World) :
    Calls Tryz.prog 77 #[.string s] w fun e w' => e = .returned (.agg (nlC (readL s.data.toList))) ∧ Below w.heap.size w w' := by
  have hz : run 10 s.data.toList ≤ s.size := by rw [Lib.size_eq]; exact run_le 10 _
  have c0 := fun W => readLettered_any s hs W
  by_cases h1 : 0 < run (lett s.data.toList) (s.data.toList.drop 2)
  · have e : readL s.data.toList = lettL s.data.toList := by unfold readL; rw [if_pos h1]
    have e2 : lettL s.data.toList = ⟨11, lett s.data.toList, 2, 0, 0, 2 + run (lett s.data.toList) (s.data.toList.drop 2)⟩ := by unfold lettL; rw [if_pos h1]
    rw [e]
    refine read_lett s _ _ _ _ _ _ ?_ c0 w
    rw [e2]
    rfl
  · have e2 : lettL s.data.toList = Nl.none := by unfold lettL; rw [if_neg h1]
    have e : readL s.data.toList = decL s.data.toList := by unfold readL; rw [if_neg h1]
    rw [e2] at c0
    rw [e]
    have d0 := fun W => digitsEnd_any s 0 10 hs (by omega) W
    rw [Nat.zero_add, rest_zero] at d0
    unfold decL
    by_cases h2 : run 10 s.data.toList = 0
    · rw [if_pos h2]
      rw [h2] at d0
      exact read_none s c0 d0 w
    · rw [if_neg h2]
      have g1 := fracE_le s.data.toList (run 10 s.data.toList) (by rw [← Lib.size_eq]; exact hz)
      rw [← Lib.size_eq] at g1
      have := read_dec s _ _ _ _ (by rw [beq_eq_false_iff_ne]; omega) rfl c0 d0 (fun W => fractionEnd_any s _ hs hz W) (fun W => exponentEnd_any s _ hs g1 W) w
      unfold nlC
      dsimp only
      refine this.mono ?_
      rintro e' w' ⟨rfl, hb⟩
      refine ⟨?_, hb⟩
      have hk : ((if run 10 s.data.toList < expE s.data.toList (fracE s.data.toList (run 10 s.data.toList)) then 12 else 11 : Nat) : Int) = if ((run 10 s.data.toList : Nat) : Int) < ((expE s.data.toList (fracE s.data.toList (run 10 s.data.toList)) : Nat) : Int) then 12 else 11 := by
        by_cases q : run 10 s.data.toList < expE s.data.toList (fracE s.data.toList (run 10 s.data.toList))
        · rw [if_pos q, if_pos (by omega)]
          rfl
        · rw [if_neg q, if_neg (by omega)]
          rfl
      rw [hk]
      rfl
/-- Scan's answer. -/
def scanN (s : ByteArray) (i : Int) : Nat × Nat := if 0 ≤ i ∧ i < s.size then (if (readL (rest s i.toNat)).kind = 0 then (0, 0) else ((readL (rest s i.toNat)).kind, i.toNat + (readL (rest s i.toNat)).fin)) else (0, 0)
theorem below_drewN {B : Nat} {a w : World} (h : Below B a w) (n : Nat) : Below B a (w.drewN n) := ⟨h.os, h.tape, h.output, h.size, h.block⟩
theorem scan_no (s : ByteArray) (n : Nat) (h0 : n < s.size) (a b c d e f : Int) (ha : (a == 0) = true) (C0 : Hid (∀ W, Calls Tryz.prog 77 #[.string (s.extract n s.size)] W fun e' w' => e' = .returned (.agg #[.int .i64 a, .int .i64 b, .int .i64 c, .int .i64 d, .int .i64 e, .int .i64 f]) ∧ Below W.heap.size W w')) (w : World) :
    Calls Tryz.prog 60 #[.string s, .int .i64 (n : Int)] w fun e' w' => e' = .returned (.tuple #[.int .i64 0, .int .i64 0]) ∧ Below w.heap.size w w' := by
  go_enter Tryz.func60, Tryz.ntmps60
  go_wp2_with fail
  refine (C0.out _).mono ?_
  rintro e1 w2 ⟨rfl, hb2⟩
  have B2 := Lib.hid hb2
  clear hb2
  have NW := Six.new w2 a b c d e f
  have y0 := NW.c0
  have y1 := NW.c1
  have y2 := NW.c2
  have y3 := NW.c3
  have y4 := NW.c4
  have y5 := NW.c5
  clear NW
  go_wp2_with fail
  go_ret2
  exact ⟨rfl, B2.out.trans (((Below.refl _ _).alloc (Nat.le_refl _) _).mono B2.out.size)⟩
theorem scan_yes (s : ByteArray) (n : Nat) (h0 : n < s.size) (hs : s.size ≤ 1125899906842624) (a b c d e f : Int) (ha : (a == 0) = false) (g1 : 0 ≤ f) (g2 : f ≤ 1125899906842624) (C0 : Hid (∀ W, Calls Tryz.prog 77 #[.string (s.extract n s.size)] W fun e' w' => e' = .returned (.agg #[.int .i64 a, .int .i64 b, .int .i64 c, .int .i64 d, .int .i64 e, .int .i64 f]) ∧ Below W.heap.size W w')) (w : World) :
    Calls Tryz.prog 60 #[.string s, .int .i64 (n : Int)] w fun e' w' => e' = .returned (.tuple #[.int .i64 a, .int .i64 ((n : Int) + f)]) ∧ Below w.heap.size w w' := by
  go_enter Tryz.func60, Tryz.ntmps60
  go_wp2_with fail
  refine (C0.out _).mono ?_
  rintro e1 w2 ⟨rfl, hb2⟩
  have B2 := Lib.hid hb2
  clear hb2
  have NW := Six.new w2 a b c d e f
  have y0 := NW.c0
  have y1 := NW.c1
  have y2 := NW.c2
  have y3 := NW.c3
  have y4 := NW.c4
  have y5 := NW.c5
  clear NW
  go_wp2_with fail
  go_quiet (fail)
  go_wp2_with fail
  go_ret2
  exact ⟨rfl, below_drewN (B2.out.trans (((Below.refl _ _).alloc (Nat.le_refl _) _).mono B2.out.size)) _⟩
theorem Scan_any (s : ByteArray) (i : Int) (hs : s.size ≤ 1125899906842624) (w : World) :
    Calls Tryz.prog 60 #[.string s, .int .i64 i] w fun e w' => e = .returned (.tuple #[.int .i64 ((scanN s i).1 : Int), .int .i64 ((scanN s i).2 : Int)]) ∧ Below w.heap.size w w' := by
  by_cases h1 : i < 0
  · unfold scanN
    rw [if_neg (by omega)]
    go_enter Tryz.func60, Tryz.ntmps60
    go_wp2_with fail
    go_ret2
    exact ⟨rfl, Below.refl _ _⟩
  obtain ⟨n, rfl⟩ : ∃ n : Nat, i = n := ⟨i.toNat, by omega⟩
  by_cases h0 : n < s.size
  · have c0 := fun W => read_any (s.extract n s.size) (by rw [size_tail]; omega) W
    have er : (s.extract n s.size).data.toList = rest s n := Lib.extract_to_end _ _
    rw [er] at c0
    have hf := readL_fin (rest s n)
    rw [rest_len] at hf
    unfold scanN
    rw [if_pos (by omega), Int.toNat_natCast]
    by_cases h2 : (readL (rest s n)).kind = 0
    · rw [if_pos h2]
      exact scan_no s n h0 _ _ _ _ _ _ (by rw [beq_iff_eq]; omega) c0 w
    · rw [if_neg h2]
      exact scan_yes s n h0 hs _ _ _ _ _ _ (by rw [beq_eq_false_iff_ne]; omega) (by omega) (by omega) c0 w
  · unfold scanN
    rw [if_neg (by omega)]
    go_enter Tryz.func60, Tryz.ntmps60
    go_wp2_with fail
    go_ret2
    exact ⟨rfl, Below.refl _ _⟩

end Go.Proofs.YtmgclgojmckfhaaGreatDoor.Num
/-
  The contracts of the document's own Scan, whole, parts. Condition: the string has at most 2^50 bytes.
-/
namespace Go.Proofs.YtmgclgojmckfhaaGreatDoor.Num
open Go.RowKit Gly
set_option linter.unusedSimpArgs false
set_option linter.unusedVariables false

end Go.Proofs.YtmgclgojmckfhaaGreatDoor.Num
/-
  The contracts of the document's own Scan at any place, whole, parts. Condition: the string has at most 2^50 bytes.
-/
namespace Go.Proofs.YtmgclgojmckfhaaGreatDoor.Num
open Go.RowKit Gly
set_option linter.unusedSimpArgs false
set_option linter.unusedVariables false

end Go.Proofs.YtmgclgojmckfhaaGreatDoor.Num
