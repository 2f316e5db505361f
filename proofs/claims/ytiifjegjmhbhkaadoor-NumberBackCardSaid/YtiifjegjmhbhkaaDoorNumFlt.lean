/-
  The contracts of package number's shortest, exponentValue, Float, amountOf and Same. Condition: the string has at most 2^50 bytes; where digits are computed the library's table of powers of ten stands.
-/
import Derived.Test.YtiifjegjmhbhkaaDoorNumDec
import Derived.Shelf.Strings.Trim
import Derived.Shelf.Strings.SlTrimAscii
import Derived.Shelf.Strings.Prefix
namespace Go.Proofs.YtiifjegjmhbhkaaDoor.Num
open Go.RowKit Gly
open Go.Lib (decDigits)
set_option linter.unusedSimpArgs false
set_option linter.unusedVariables false

theorem trimL_any (s : ByteArray) (w : World) : Calls Tryd.prog 48 #[.string s, .string ⟨#[48]⟩] w fun e w' => e = .returned (.string ⟨(strip s.data.toList).toArray⟩) ∧ w = w' :=
  (Any.strings_TrimLeft_one Tryd.lays161 s 48 (by decide) w).mono fun e w' ⟨h1, h2⟩ => ⟨h1, h2.symm⟩
theorem trimR_any (s : ByteArray) (hs : s.size ≤ 1125899906842624) (w : World) : Calls Tryd.prog 50 #[.string s, .string ⟨#[48]⟩] w fun e w' => e = .returned (.string ⟨(rstrip s.data.toList).toArray⟩) ∧ w = w' :=
  (Any.strings_TrimRight_one Tryd.lays162 s 48 (by decide) w (by omega)).mono fun e w' ⟨h1, h2⟩ => ⟨h1, h2.symm⟩

/-- A block that holds an amount. -/
def Two (w : World) (g : Nat) (x : ByteArray) (t : Int) : Prop := w.heap[g]? = some (.cells #[.string x, .int .i64 t] 50 (0, 0))
section
variable {w : World} {g : Nat} {x : ByteArray} {t : Int}
theorem Two.c0 (h : Two w g x t) : w.cell? ⟨g, 0, none⟩ = some (.string x) := by rw [cell_of_row w g 0 _ _ _ h]; rfl
theorem Two.c1 (h : Two w g x t) : w.cell? ⟨g, 1, none⟩ = some (.int .i64 t) := by rw [cell_of_row w g 1 _ _ _ h]; rfl
theorem Two.free (h : Two w g x t) (i : Nat) : w.frozen? ⟨g, i, none⟩ = false := by unfold Two at h; simp [World.frozen?, h]
theorem Two.lt (h : Two w g x t) : g < w.heap.size := lt_of_block h
theorem Two.below {B : Nat} {w' : World} (h : Two w g x t) (hb : Below B w w') (hg : g < B) : Two w' g x t := (hb.block g hg).trans h
theorem Two.new (w : World) (x : ByteArray) (t : Int) : Two (w.alloc (.cells #[.string x, .int .i64 t] 50)) w.heap.size x t := heap_alloc_new w _
theorem Two.store {w0 : World} {B : Nat} (h : Two w g x t) (hb : Below B w0 w) (hg : B ≤ g) (y : ByteArray) (u : Int) :
    Two ((w.setCell ⟨g, 0, none⟩ (.string y)).setCell ⟨g, 1, none⟩ (.int .i64 u)) g y u ∧ Below B w0 ((w.setCell ⟨g, 0, none⟩ (.string y)).setCell ⟨g, 1, none⟩ (.int .i64 u)) := by
  refine ⟨?_, (hb.setCell (by exact hg) _).setCell (by exact hg) _⟩
  unfold Two at h ⊢
  simp [World.setCell, Array.getElem?_modify, h]
end

theorem shortest_none (s : ByteArray) (t : Int) (h : strip s.data.toList = []) (w : World) :
    Calls Tryd.prog 34 #[.string s, .int .i64 t] w fun e w' => e = .returned (.agg #[.string ⟨#[48]⟩, .int .i64 0]) ∧ Below w.heap.size w w' := by
  have C := Lib.hid (fun W => trimL_any s W)
  rw [h] at C
  go_enter Tryd.func34, Tryd.ntmps34
  go_wp2_with fail
  refine (C.out _).mono ?_
  rintro e1 w1 ⟨rfl, rfl⟩
  go_wp2_with fail
  go_returns
  exact ⟨rfl, (Below.refl _ _).alloc (Nat.le_refl _) _⟩
theorem shortest_some (s : ByteArray) (t : Int) (x y : ByteArray) (hx : x.toList.isEmpty = false) (w : World) (hzx : x.size ≤ 1125899906842624) (hzy : y.size ≤ x.size) (ht : -4611686018427387904 ≤ t ∧ t ≤ 4611686018427387904)
    (C : Hid (∀ W, Calls Tryd.prog 48 #[.string s, .string ⟨#[48]⟩] W fun e w' => e = .returned (.string x) ∧ W = w'))
    (D : Hid (∀ W, Calls Tryd.prog 50 #[.string x, .string ⟨#[48]⟩] W fun e w' => e = .returned (.string y) ∧ W = w')) :
    Calls Tryd.prog 34 #[.string s, .int .i64 t] w fun e w' => e = .returned (.agg #[.string y, .int .i64 (t + (x.size : Int) - (y.size : Int))]) ∧ Below w.heap.size w w' := by
  have t1 := ht.1
  have t2 := ht.2
  clear ht
  go_enter Tryd.func34, Tryd.ntmps34
  go_wp2_with fail
  refine (C.out _).mono ?_
  rintro e1 w1 ⟨rfl, rfl⟩
  go_wp2_with fail
  refine (D.out _).mono ?_
  rintro e1 w1 ⟨rfl, rfl⟩
  go_wp2_with fail
  go_returns
  exact ⟨rfl, (Below.refl _ _).alloc (Nat.le_refl _) _⟩
theorem toList_ne (L : List UInt8) (h : L ≠ []) : (⟨L.toArray⟩ : ByteArray).toList.isEmpty = false := by
  rw [Lib.toList_data]
  cases L with
  | nil => exact absurd rfl h
  | cons x L => rfl
theorem size_of (L : List UInt8) : (⟨L.toArray⟩ : ByteArray).size = L.length := by rw [Lib.size_eq]
theorem shortest_any (s : ByteArray) (t : Int) (hs : s.size ≤ 1125899906842624) (ht : -4611686018427387904 ≤ t ∧ t ≤ 4611686018427387904) (w : World) :
    Calls Tryd.prog 34 #[.string s, .int .i64 t] w fun e w' => e = .returned (.agg #[.string ⟨(shortS s.data.toList t).1.toArray⟩, .int .i64 (shortS s.data.toList t).2]) ∧ Below w.heap.size w w' := by
  unfold shortS
  by_cases h : strip s.data.toList = []
  · rw [if_pos h]
    exact shortest_none s t h w
  · rw [if_neg h]
    have h1 := strip_len s.data.toList
    have h2 := rstrip_len (strip s.data.toList)
    rw [← Lib.size_eq] at h1
    have c := fun W => trimL_any s W
    have d := fun W => trimR_any ⟨(strip s.data.toList).toArray⟩ (by rw [size_of]; omega) W
    have := shortest_some s t ⟨(strip s.data.toList).toArray⟩ ⟨(rstrip (strip s.data.toList)).toArray⟩ (toList_ne _ h) w (by rw [size_of]; omega) (by rw [size_of, size_of]; exact h2) ht c d
    rw [size_of, size_of] at this
    exact this

/-- exponentValue's answer for an exponent's digits. -/
theorem valueS_digits (X : List UInt8) (h0 : X ≠ []) (h : X.all (isD 10) = true) : valueS X = if valOf 10 0 X ≤ 4611686018427387904 then ((valOf 10 0 X : Int), 0) else (0, 3) := by
  unfold valueS
  rw [wholeL_digits X h0 h, if_pos rfl]
  rfl
theorem trimS_any (s : ByteArray) (w : World) : Calls Tryd.prog 48 #[.string s, .string ⟨#[43, 45]⟩] w fun e w' => e = .returned (.string ⟨(Lib.trimLeftS s.data.toList [43, 45]).toArray⟩) ∧ Below w.heap.size w w' :=
  Any.strings_TrimLeft_laid Tryd.lays161 (by kernel_rfl) s ⟨#[43, 45]⟩ w (by decide) (ascii_of_all (by decide))
theorem expv_nil (w : World) : Calls Tryd.prog 32 #[.string ⟨#[]⟩] w fun e w' => e = .returned (.tuple #[.int .i64 0, .int .i64 0]) ∧ Below w.heap.size w w' := by
  go_enter Tryd.func32, Tryd.ntmps32
  go_wp2_with fail
  go_ret2
  exact ⟨rfl, Below.refl _ _⟩
theorem expv_long (s x : ByteArray) (hs : 1 < s.size) (he : s.toList.isEmpty = false) (a b : Int) (hb : (b != 0) = true ∨ ((b != 0) = false ∧ decide (1000000000 < a) = true))
    (C : Hid (∀ W, Calls Tryd.prog 48 #[.string (s.extract 1 s.size), .string ⟨#[43, 45]⟩] W fun e w' => e = .returned (.string x) ∧ Below W.heap.size W w'))
    (D : Hid (∀ W, Calls Tryd.prog 14 #[.string x] W fun e w' => e = .returned (.tuple #[.int .i64 a, .int .i64 b]) ∧ Below W.heap.size W w')) (w : World) :
    Calls Tryd.prog 32 #[.string s] w fun e w' => e = .returned (.tuple #[.int .i64 0, .int .i64 3]) ∧ Below w.heap.size w w' := by
  have i1 : (1 : Int) ≤ (s.size : Int) := by omega
  rcases hb with hb | ⟨hb, hb2⟩
  · go_enter Tryd.func32, Tryd.ntmps32
    go_wp2_with fail
    refine (C.out _).mono ?_
    rintro e1 w1 ⟨rfl, hb1⟩
    have HB1 := Lib.hid hb1
    clear hb1
    go_wp2_with fail
    refine (D.out _).mono ?_
    rintro e1 w2 ⟨rfl, hb2⟩
    have HB2 := Lib.hid (HB1.out.trans (hb2.mono HB1.out.size))
    clear hb2
    go_wp2_with fail
    go_ret2
    exact ⟨rfl, HB2.out⟩
  · go_enter Tryd.func32, Tryd.ntmps32
    go_wp2_with fail
    refine (C.out _).mono ?_
    rintro e1 w1 ⟨rfl, hb1⟩
    have HB1 := Lib.hid hb1
    clear hb1
    go_wp2_with fail
    refine (D.out _).mono ?_
    rintro e1 w2 ⟨rfl, hb3⟩
    have HB2 := Lib.hid (HB1.out.trans (hb3.mono HB1.out.size))
    clear hb3
    go_wp2_with fail
    go_ret2
    exact ⟨rfl, HB2.out⟩
theorem expv_neg (s x : ByteArray) (hs : 1 < s.size) (he : s.toList.isEmpty = false) (a : Int) (ha : 0 ≤ a) (hb : decide (1000000000 < a) = false) (h45 : (((s[1].toNat : Nat) : Int) == 45) = true)
    (C : Hid (∀ W, Calls Tryd.prog 48 #[.string (s.extract 1 s.size), .string ⟨#[43, 45]⟩] W fun e w' => e = .returned (.string x) ∧ Below W.heap.size W w'))
    (D : Hid (∀ W, Calls Tryd.prog 14 #[.string x] W fun e w' => e = .returned (.tuple #[.int .i64 a, .int .i64 0]) ∧ Below W.heap.size W w')) (w : World) :
    Calls Tryd.prog 32 #[.string s] w fun e w' => e = .returned (.tuple #[.int .i64 (-a), .int .i64 0]) ∧ Below w.heap.size w w' := by
  have i1 : (1 : Int) ≤ (s.size : Int) := by omega
  have a1 : a ≤ 1000000000 := by have := of_decide_eq_false hb; omega
  go_enter Tryd.func32, Tryd.ntmps32
  go_wp2_with fail
  refine (C.out _).mono ?_
  rintro e1 w1 ⟨rfl, hb1⟩
  have HB1 := Lib.hid hb1
  clear hb1
  go_wp2_with fail
  refine (D.out _).mono ?_
  rintro e1 w2 ⟨rfl, hb3⟩
  have HB2 := Lib.hid (HB1.out.trans (hb3.mono HB1.out.size))
  clear hb3
  go_wp2_with fail
  go_ret2
  exact ⟨rfl, HB2.out⟩
theorem expv_pos (s x : ByteArray) (hs : 1 < s.size) (he : s.toList.isEmpty = false) (a : Int) (ha : 0 ≤ a) (hb : decide (1000000000 < a) = false) (h45 : (((s[1].toNat : Nat) : Int) == 45) = false)
    (C : Hid (∀ W, Calls Tryd.prog 48 #[.string (s.extract 1 s.size), .string ⟨#[43, 45]⟩] W fun e w' => e = .returned (.string x) ∧ Below W.heap.size W w'))
    (D : Hid (∀ W, Calls Tryd.prog 14 #[.string x] W fun e w' => e = .returned (.tuple #[.int .i64 a, .int .i64 0]) ∧ Below W.heap.size W w')) (w : World) :
    Calls Tryd.prog 32 #[.string s] w fun e w' => e = .returned (.tuple #[.int .i64 a, .int .i64 0]) ∧ Below w.heap.size w w' := by
  have i1 : (1 : Int) ≤ (s.size : Int) := by omega
  have a1 : a ≤ 1000000000 := by have := of_decide_eq_false hb; omega
  go_enter Tryd.func32, Tryd.ntmps32
  go_wp2_with fail
  refine (C.out _).mono ?_
  rintro e1 w1 ⟨rfl, hb1⟩
  have HB1 := Lib.hid hb1
  clear hb1
  go_wp2_with fail
  refine (D.out _).mono ?_
  rintro e1 w2 ⟨rfl, hb3⟩
  have HB2 := Lib.hid (HB1.out.trans (hb3.mono HB1.out.size))
  clear hb3
  go_wp2_with fail
  go_ret2
  exact ⟨rfl, HB2.out⟩
theorem trimS_digits (X : List UInt8) (h : X.all (isD 10) = true) : Lib.trimLeftS X [43, 45] = X := by
  unfold Lib.trimLeftS
  cases X with
  | nil => rfl
  | cons x r =>
    rw [List.all_cons, Bool.and_eq_true] at h
    have := (dg_ten' x h.1).2
    rw [List.dropWhile_cons, if_neg]
    intro h2
    rw [List.contains_iff_mem] at h2
    rcases List.mem_cons.1 h2 with rfl | h2
    · exact absurd this (by decide)
    · rcases List.mem_cons.1 h2 with rfl | h2
      · exact absurd this (by decide)
      · cases h2
/-- exponentValue's answer. -/
def expS (L : List UInt8) : Int × Int := if 1000000000 < expV L then (0, 3) else (expI L, 0)
theorem expv_any (s : ByteArray) (hs : s.size ≤ 1125899906842624) (h : (wholeL s.data.toList).kind = 12) (w : World) :
    Calls Tryd.prog 32 #[.string (s.extract (wholeL s.data.toList).mant s.size)] w fun e w' => e = .returned (.tuple #[.int .i64 (expS s.data.toList).1, .int .i64 (expS s.data.toList).2]) ∧ Below w.heap.size w w' := by
  obtain ⟨p, m, e1, e2, h1, h2, h3, h4, h5, h6⟩ := float_parts s.data.toList h
  have hL := Lib.size_eq s
  rw [e2]
  by_cases hm : m = s.data.toList.length
  · have hv : expV s.data.toList = 0 := by
      unfold expV
      rw [e2, if_neg (by omega)]
    have hr : expS s.data.toList = (0, 0) := by
      unfold expS expI
      rw [hv, if_neg (by omega)]
      split <;> rfl
    have hx : s.extract m s.size = ⟨#[]⟩ := by
      apply bytes_ext
      rw [Lib.extract_to_end, hm, List.drop_length]
    rw [hr, hx]
    exact expv_nil w
  · rcases h6 with h6 | ⟨m1, m2, m3, m4⟩
    · exact absurd h6 hm
    have hX := expX_digits s.data.toList h (by rw [e2]; exact m1)
    have hg := expF_ge s.data.toList m
    have hv : expV s.data.toList = valOf 10 0 (expX s.data.toList) := by
      unfold expV
      rw [e2, if_pos m1]
    have hXr : expX s.data.toList = rest s (expF s.data.toList m) := by unfold expX; rw [e2]; rfl
    have hsz : (s.extract m s.size).size = s.size - m := size_tail s m
    have hlt : m + 1 < s.size := by omega
    have hb1 : bt s.data.toList (m + 1) = s[m + 1].toNat := bt_in s (m + 1) hlt
    have ht1 : ((s.extract m s.size)[1]'(by omega)).toNat = bt s.data.toList (m + 1) := by
      rw [← bt_in (s.extract m s.size) 1 (by omega), Lib.extract_to_end, bt_drop]
    have htail : ((s.extract m s.size).extract 1 (s.extract m s.size).size).data.toList = rest s (m + 1) := by
      rw [Lib.extract_to_end, Lib.extract_to_end, List.drop_drop]
      rfl
    have htrim : Lib.trimLeftS (rest s (m + 1)) [43, 45] = expX s.data.toList := by
      rw [hXr]
      by_cases hsg : bt s.data.toList (m + 1) = 43 ∨ bt s.data.toList (m + 1) = 45
      · have ef : expF s.data.toList m = m + 2 := by unfold expF; rw [if_pos hsg]
        rw [ef, rest_cons s (m + 1) hlt]
        have hc : ([43, 45] : List UInt8).contains s[m + 1] = true := by
          rw [hb1] at hsg
          rw [List.contains_iff_mem]
          rcases hsg with h9 | h9
          · have : s[m + 1] = 43 := UInt8.toNat_inj.1 h9
            rw [this]
            simp
          · have : s[m + 1] = 45 := UInt8.toNat_inj.1 h9
            rw [this]
            simp
        have hd : Lib.trimLeftS (s[m + 1] :: rest s (m + 1 + 1)) [43, 45] = Lib.trimLeftS (rest s (m + 2)) [43, 45] := by
          unfold Lib.trimLeftS
          rw [List.dropWhile_cons, if_pos hc]
        rw [hd]
        apply trimS_digits
        rw [← ef, ← hXr]
        exact hX.2
      · have ef : expF s.data.toList m = m + 1 := by unfold expF; rw [if_neg hsg]
        rw [ef]
        apply trimS_digits
        rw [← ef, ← hXr]
        exact hX.2
    have c := fun W => trimS_any ((s.extract m s.size).extract 1 (s.extract m s.size).size) W
    rw [htail, htrim] at c
    have hXl : (expX s.data.toList).length ≤ s.size := by
      rw [hXr, rest_len]
      omega
    have d := fun W => Value_any ⟨(expX s.data.toList).toArray⟩ (by rw [size_of]; omega) W
    have hvd := valueS_digits _ hX.1 hX.2
    rw [← hv] at hvd
    rw [show (⟨(expX s.data.toList).toArray⟩ : ByteArray).data.toList = expX s.data.toList from rfl, hvd] at d
    have he : (s.extract m s.size).toList.isEmpty = false := by
      rw [Lib.toList_data]
      cases h8 : (s.extract m s.size).data.toList with
      | nil =>
        have := congrArg List.length h8
        rw [← Lib.size_eq] at this
        simp at this
        omega
      | cons x r => rfl
    unfold expS expI
    rw [e2]
    by_cases hl : 1000000000 < expV s.data.toList
    · rw [if_pos hl]
      by_cases hl2 : expV s.data.toList ≤ 4611686018427387904
      · rw [if_pos hl2] at d
        exact expv_long _ _ (by omega) he _ _ (.inr ⟨rfl, decide_eq_true (by omega)⟩) c d w
      · rw [if_neg hl2] at d
        exact expv_long _ _ (by omega) he _ _ (.inl (by decide)) c d w
    · rw [if_neg hl]
      rw [if_pos (by omega)] at d
      by_cases h45 : bt s.data.toList (m + 1) = 45
      · rw [if_pos h45]
        exact expv_neg _ _ (by omega) he _ (by omega) (decide_eq_false (by omega)) (by rw [ht1, h45]; rfl) c d w
      · rw [if_neg h45]
        exact expv_pos _ _ (by omega) he _ (by omega) (decide_eq_false (by omega)) (by rw [ht1, beq_eq_false_iff_ne]; omega) c d w

theorem flt_none (s : ByteArray) (a b c d e f : Int) (ha : (a != 12) = true)
    (C0 : Hid (∀ W, Calls Tryd.prog 24 #[.string s] W fun e' w' => e' = .returned (.agg #[.int .i64 a, .int .i64 b, .int .i64 c, .int .i64 d, .int .i64 e, .int .i64 f]) ∧ Below W.heap.size W w')) (w : World) :
    Calls Tryd.prog 18 #[.string s] w fun e w' => e = .returned (.tuple #[.string ⟨#[]⟩, .int .i64 0, .int .i64 40]) ∧ Below w.heap.size w w' := by
  go_enter Tryd.func18, Tryd.ntmps18
  go_wp2_with fail
  refine (C0.out _).mono ?_
  rintro e1 w1 ⟨rfl, hb1⟩
  have HB1 := Lib.hid hb1
  clear hb1
  have NW := Six.new w1 a b c d e f
  have y0 := NW.c0
  clear NW
  go_wp2_with fail
  go_ret3
  exact ⟨rfl, HB1.out.alloc HB1.out.size _⟩
theorem flt_long (s : ByteArray) (b c d f : Int) (m : Nat) (x z : Int) (hm : m ≤ s.size) (hx : decide ((1000 : Int) < (s.size : Int)) = true ∨ (decide ((1000 : Int) < (s.size : Int)) = false ∧ (z != 0) = true))
    (C0 : Hid (∀ W, Calls Tryd.prog 24 #[.string s] W fun e' w' => e' = .returned (.agg #[.int .i64 12, .int .i64 b, .int .i64 c, .int .i64 d, .int .i64 (m : Int), .int .i64 f]) ∧ Below W.heap.size W w'))
    (C1 : Hid (∀ W, Calls Tryd.prog 32 #[.string (s.extract m s.size)] W fun e' w' => e' = .returned (.tuple #[.int .i64 x, .int .i64 z]) ∧ Below W.heap.size W w')) (w : World) :
    Calls Tryd.prog 18 #[.string s] w fun e w' => e = .returned (.tuple #[.string ⟨#[]⟩, .int .i64 0, .int .i64 3]) ∧ Below w.heap.size w w' := by
  have i1 : (m : Int) ≤ (s.size : Int) := by omega
  rcases hx with hx | ⟨hx, hx2⟩
  · go_enter Tryd.func18, Tryd.ntmps18
    go_wp2_with fail
    refine (C0.out _).mono ?_
    rintro e1 w1 ⟨rfl, hb1⟩
    have HB1 := Lib.hid hb1
    clear hb1
    have NW := Six.new w1 12 b c d (m : Int) f
    have y0 := NW.c0
    have y4 := NW.c4
    clear NW
    go_wp2_with fail
    refine (C1.out _).mono ?_
    rintro e1 w2 ⟨rfl, hb2⟩
    have HB2 : Hid (Below w.heap.size w w2) := (HB1.out.alloc HB1.out.size _).trans (hb2.mono (by have := HB1.out.size; rw [World.size_alloc]; omega))
    clear hb2
    go_wp2_with fail
    go_ret3
    exact ⟨rfl, HB2.out⟩
  · go_enter Tryd.func18, Tryd.ntmps18
    go_wp2_with fail
    refine (C0.out _).mono ?_
    rintro e1 w1 ⟨rfl, hb1⟩
    have HB1 := Lib.hid hb1
    clear hb1
    have NW := Six.new w1 12 b c d (m : Int) f
    have y0 := NW.c0
    have y4 := NW.c4
    clear NW
    go_wp2_with fail
    refine (C1.out _).mono ?_
    rintro e1 w2 ⟨rfl, hb2⟩
    have HB2 : Hid (Below w.heap.size w w2) := (HB1.out.alloc HB1.out.size _).trans (hb2.mono (by have := HB1.out.size; rw [World.size_alloc]; omega))
    clear hb2
    go_wp2_with fail
    go_ret3
    exact ⟨rfl, HB2.out⟩
theorem flt_ok (s fr y : ByteArray) (b c f : Int) (p m : Nat) (x t : Int) (hs : s.size ≤ 1000) (hp : p ≤ m) (hm : m ≤ s.size) (hfr : fr.size ≤ 1000) (hx1 : -1000000000 ≤ x) (hx2 : x ≤ 1000000000)
    (C0 : Hid (∀ W, Calls Tryd.prog 24 #[.string s] W fun e' w' => e' = .returned (.agg #[.int .i64 12, .int .i64 b, .int .i64 c, .int .i64 (p : Int), .int .i64 (m : Int), .int .i64 f]) ∧ Below W.heap.size W w'))
    (C1 : Hid (∀ W, Calls Tryd.prog 32 #[.string (s.extract m s.size)] W fun e' w' => e' = .returned (.tuple #[.int .i64 x, .int .i64 0]) ∧ Below W.heap.size W w'))
    (C2 : Hid (∀ W, Calls Tryd.prog 33 #[.string (s.extract p m), .string ⟨#[46]⟩] W fun e' w' => e' = .returned (.string fr) ∧ W = w'))
    (C3 : Hid (∀ W, Calls Tryd.prog 34 #[.string (s.extract 0 p ++ fr), .int .i64 (x - (fr.size : Int))] W fun e' w' => e' = .returned (.agg #[.string y, .int .i64 t]) ∧ Below W.heap.size W w')) (w : World) :
    Calls Tryd.prog 18 #[.string s] w fun e w' => e = .returned (.tuple #[.string y, .int .i64 t, .int .i64 0]) ∧ Below w.heap.size w w' := by
  have hz : decide ((1000 : Int) < (s.size : Int)) = false := decide_eq_false (by omega)
  go_enter Tryd.func18, Tryd.ntmps18
  go_wp2_with fail
  refine (C0.out _).mono ?_
  rintro e1 w1 ⟨rfl, hb1⟩
  have HB1 := Lib.hid hb1
  clear hb1
  have NW := Six.new w1 12 b c (p : Int) (m : Int) f
  have NN := Lib.hid NW
  have y0 := NW.c0
  have y4 := NW.c4
  clear NW
  go_wp2_with fail
  refine (C1.out _).mono ?_
  rintro e1 w2 ⟨rfl, hb2⟩
  have HB2 : Hid (Below w.heap.size w w2) := (HB1.out.alloc HB1.out.size _).trans (hb2.mono (by have := HB1.out.size; rw [World.size_alloc]; omega))
  have N2 : Hid (Six w2 w1.heap.size 12 b c (p : Int) (m : Int) f) := NN.out.below hb2 NN.out.lt
  clear hb2 y0 y4
  have y3 := N2.out.c3
  have y4 := N2.out.c4
  go_wp2_with fail
  refine (C2.out _).mono ?_
  rintro e1 w3 ⟨rfl, rfl⟩
  go_wp2_with fail
  refine (C3.out _).mono ?_
  rintro e1 w4 ⟨rfl, hb4⟩
  have HB4 : Hid (Below w.heap.size w w4) := HB2.out.trans (hb4.mono HB2.out.size)
  clear hb4 y3 y4
  have TW := Two.new w4 y t
  have y0 := TW.c0
  have y1 := TW.c1
  have HB5 : Hid (Below w.heap.size w (w4.alloc (.cells #[.string y, .int .i64 t] 50))) := HB4.out.alloc HB4.out.size _
  clear TW
  go_wp2_with fail
  go_quiet (fail)
  go_wp2_with fail
  go_ret3
  exact ⟨rfl, below_drewN HB5.out _⟩
theorem frac_is (s : ByteArray) (h : (wholeL s.data.toList).kind = 12) : Lib.trimPrefix (s.extract (wholeL s.data.toList).point (wholeL s.data.toList).mant).data.toList [46] = fracL s.data.toList := by
  obtain ⟨p, m, e1, e2, h1, h2, h3, h4, h5, h6⟩ := float_parts s.data.toList h
  have hL := Lib.size_eq s
  unfold fracL
  rw [e1, e2, Lib.extract_data]
  rcases h5 with ⟨k1, k2, k3⟩ | ⟨k1, k2⟩
  · have hc : s.data.toList.drop p = s[p] :: s.data.toList.drop (p + 1) := rest_cons s p (by omega)
    have h46 : s[p] = 46 := by
      rw [bt_in s p (by omega)] at k1
      exact UInt8.toNat_inj.1 k1
    rw [hc, h46, show m - p = (m - p - 1) + 1 by omega, List.take_succ_cons]
    rfl
  · rw [k2, Nat.sub_self, List.take_zero]
    rfl
theorem Float_any (s : ByteArray) (hs : s.size ≤ 1125899906842624) (w : World) :
    Calls Tryd.prog 18 #[.string s] w fun e w' => e = .returned (.tuple #[.string ⟨(floatS s.data.toList).1.toArray⟩, .int .i64 (floatS s.data.toList).2.1, .int .i64 (floatS s.data.toList).2.2]) ∧ Below w.heap.size w w' := by
  have c0 := fun W => whole_any s hs W
  unfold floatS
  by_cases h : (wholeL s.data.toList).kind = 12
  · rw [if_pos h]
    have c1 := fun W => expv_any s hs h W
    have c2 := fun W => (Any.strings_TrimPrefix Tryd.lays101 (s.extract (wholeL s.data.toList).point (wholeL s.data.toList).mant) ⟨#[46]⟩ W).mono fun e w' (h : _ ∧ _) => And.intro h.1 h.2.symm
    rw [show (⟨#[46]⟩ : ByteArray).data.toList = [46] from rfl, frac_is s h] at c2
    have hfl := (frac_len s.data.toList h).2
    have hal := all_len s.data.toList
    have hfe : (s.extract 0 (wholeL s.data.toList).point ++ (⟨(fracL s.data.toList).toArray⟩ : ByteArray)).data.toList = allL s.data.toList := by
      rw [Go.Joins.data_append, Lib.extract_data, List.drop_zero, Nat.sub_zero]
      rfl
    obtain ⟨p, m, e1, e2, h1, h2, h3, h4, h5, h6⟩ := float_parts s.data.toList h
    have hpm : p ≤ m := by
      rcases h5 with ⟨k1, k2, k3⟩ | ⟨k1, k2⟩ <;> omega
    rw [← Lib.size_eq] at hfl hal h4
    unfold nlC at c0
    rw [h, e1, e2] at c0
    rw [e2] at c1
    rw [e1, e2] at c2
    rw [e1] at hfe
    rw [← Lib.size_eq]
    by_cases hl : 1000 < s.size
    · rw [if_pos (.inl hl)]
      exact flt_long s _ _ _ _ m _ _ h4 (.inl (decide_eq_true (by omega))) c0 c1 w
    · by_cases he : 1000000000 < expV s.data.toList
      · rw [if_pos (.inr he)]
        have hx : expS s.data.toList = (0, 3) := by unfold expS; rw [if_pos he]
        rw [hx] at c1
        exact flt_long s _ _ _ _ m _ _ h4 (.inr ⟨decide_eq_false (by omega), by decide⟩) c0 c1 w
      · rw [if_neg (by omega)]
        have hx : expS s.data.toList = (expI s.data.toList, 0) := by unfold expS; rw [if_neg he]
        rw [hx] at c1
        have hei : -1000000000 ≤ expI s.data.toList ∧ expI s.data.toList ≤ 1000000000 := by
          unfold expI
          split <;> omega
        have c3 := fun W => shortest_any (s.extract 0 p ++ (⟨(fracL s.data.toList).toArray⟩ : ByteArray)) (expI s.data.toList - ((fracL s.data.toList).length : Int)) (by rw [Lib.size_eq, hfe]; omega) (by omega) W
        rw [hfe] at c3
        exact flt_ok s ⟨(fracL s.data.toList).toArray⟩ _ _ _ _ p m _ _ (by omega) hpm h4 (by rw [size_of]; omega) hei.1 hei.2 c0 c1 c2 (by rw [size_of]; exact c3) w
  · rw [if_neg h]
    exact flt_none s _ _ _ _ _ _ (by rw [bne_iff_ne]; omega) c0 w

theorem amt_dec (s x y : ByteArray) (t : Int)
    (C0 : Hid (∀ W, Tab W → Calls Tryd.prog 16 #[.string s] W fun e' w' => e' = .returned (.tuple #[.string x, .int .i64 0]) ∧ Below W.heap.size W w'))
    (C1 : Hid (∀ W, Calls Tryd.prog 34 #[.string x, .int .i64 0] W fun e' w' => e' = .returned (.agg #[.string y, .int .i64 t]) ∧ Below W.heap.size W w')) (w : World) (ht : Tab w) :
    Calls Tryd.prog 36 #[.string s] w fun e w' => e = .returned (.tuple #[.agg #[.string y, .int .i64 t], .int .i64 0]) ∧ Below w.heap.size w w' := by
  have tn := Two.new w ⟨#[]⟩ 0
  have TN := Lib.hid tn
  have HT : Hid (Tab (w.alloc (.cells #[.string ⟨#[]⟩, .int .i64 0] 50))) := ht.below ((Below.refl _ _).alloc (Nat.le_refl _) _) (Nat.le_refl _)
  clear tn ht
  go_enter Tryd.func36, Tryd.ntmps36
  go_wp2_with fail
  refine (C0.out _ HT.out).mono ?_
  rintro e1 w1 ⟨rfl, hb1⟩
  have T1 := Lib.hid (TN.out.below hb1 TN.out.lt)
  have HB1 : Hid (Below w.heap.size w w1) := ((Below.refl _ _).alloc (Nat.le_refl _) _).trans (hb1.mono (by rw [World.size_alloc]; omega))
  clear hb1
  go_wp2_with fail
  refine (C1.out _).mono ?_
  rintro e1 w2 ⟨rfl, hb2⟩
  have T2 := Lib.hid (T1.out.below hb2 T1.out.lt)
  have HB2 := Lib.hid (HB1.out.trans (hb2.mono HB1.out.size))
  clear hb2
  have z0 := T2.out.free 0
  have z1 := T2.out.free 1
  have y0 := T2.out.c0
  have y1 := T2.out.c1
  go_wp2_with fail
  obtain ⟨t3, b3⟩ := T2.out.store HB2.out (Nat.le_refl _) y t
  have T3 := Lib.hid t3
  have B3 := Lib.hid b3
  clear t3 b3 y0 y1 z0 z1
  generalize ((w2.setCell ⟨w.heap.size, 0, none⟩ (.string y)).setCell ⟨w.heap.size, 1, none⟩ (.int .i64 t)) = W3 at *
  have y0 := T3.out.c0
  have y1 := T3.out.c1
  trace_state
  refine bodyPost_ret (by simp [results, Tryd.results36, go_sem, y0, y1]; try rfl) rfl ?_
  exact ⟨rfl, B3.out⟩
end Go.Proofs.YtiifjegjmhbhkaaDoor.Num
