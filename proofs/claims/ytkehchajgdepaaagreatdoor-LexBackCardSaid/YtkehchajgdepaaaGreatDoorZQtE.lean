/-
  The contracts of the document's own short, number, names, begins, gap. Condition: the string has at most 2^50 bytes.
-/
import Derived.Test.YtkehchajgdepaaaGreatDoorZQtD
import Derived.Test.YtkehchajgdepaaaGreatDoorZRefA
namespace Go.Proofs.YtkehchajgdepaaaGreatDoor.Qt
open Go.RowKit Gly
open Wrd (rn wd)
set_option linter.unusedSimpArgs false
set_option linter.unusedVariables false

/-- One sign behind a backslash: -2 nothing, -1 none. -/
def shortR (n : Nat) : Int := if short n ≠ 0 then (short n : Int) else if n = 38 then -2 else -1
theorem shortR_is : ∀ n : Nat, n < 256 → shortR n = if n = 97 then 7 else if n = 98 then 8 else if n = 102 then 12 else if n = 110 then 10 else if n = 114 then 13 else if n = 116 then 9 else if n = 118 then 11 else if n = 92 ∨ n = 34 ∨ n = 39 then (n : Int) else if n = 38 then -2 else -1 := by decide +kernel
theorem refshort_any (n : Nat) (hn : n < 256) (w : World) :
    Calls Tryz.prog 127 #[.int .u8 (n : Int)] w fun e w' => e = .returned (.int .i64 (shortR n)) ∧ w = w' := by
  have hs := shortR_is n hn
  generalize shortR n = r at *
  by_cases q97 : n = 97
  · subst q97
    simp at hs
    subst hs
    go_enter Tryz.func127, Tryz.ntmps127
    go_wp2_with fail
    go_ret
    exact ⟨rfl, rfl⟩
  have b97 : (((n : Nat) : Int) == 97) = false := by rw [beq_eq_false_iff_ne]; omega
  by_cases q98 : n = 98
  · subst q98
    simp at hs
    subst hs
    go_enter Tryz.func127, Tryz.ntmps127
    go_wp2_with fail
    go_ret
    exact ⟨rfl, rfl⟩
  have b98 : (((n : Nat) : Int) == 98) = false := by rw [beq_eq_false_iff_ne]; omega
  by_cases q102 : n = 102
  · subst q102
    simp at hs
    subst hs
    go_enter Tryz.func127, Tryz.ntmps127
    go_wp2_with fail
    go_ret
    exact ⟨rfl, rfl⟩
  have b102 : (((n : Nat) : Int) == 102) = false := by rw [beq_eq_false_iff_ne]; omega
  by_cases q110 : n = 110
  · subst q110
    simp at hs
    subst hs
    go_enter Tryz.func127, Tryz.ntmps127
    go_wp2_with fail
    go_ret
    exact ⟨rfl, rfl⟩
  have b110 : (((n : Nat) : Int) == 110) = false := by rw [beq_eq_false_iff_ne]; omega
  by_cases q114 : n = 114
  · subst q114
    simp at hs
    subst hs
    go_enter Tryz.func127, Tryz.ntmps127
    go_wp2_with fail
    go_ret
    exact ⟨rfl, rfl⟩
  have b114 : (((n : Nat) : Int) == 114) = false := by rw [beq_eq_false_iff_ne]; omega
  by_cases q116 : n = 116
  · subst q116
    simp at hs
    subst hs
    go_enter Tryz.func127, Tryz.ntmps127
    go_wp2_with fail
    go_ret
    exact ⟨rfl, rfl⟩
  have b116 : (((n : Nat) : Int) == 116) = false := by rw [beq_eq_false_iff_ne]; omega
  by_cases q118 : n = 118
  · subst q118
    simp at hs
    subst hs
    go_enter Tryz.func127, Tryz.ntmps127
    go_wp2_with fail
    go_ret
    exact ⟨rfl, rfl⟩
  have b118 : (((n : Nat) : Int) == 118) = false := by rw [beq_eq_false_iff_ne]; omega
  by_cases q92 : n = 92
  · subst q92
    simp at hs
    subst hs
    go_enter Tryz.func127, Tryz.ntmps127
    go_wp2_with fail
    go_ret
    exact ⟨rfl, rfl⟩
  have b92 : (((n : Nat) : Int) == 92) = false := by rw [beq_eq_false_iff_ne]; omega
  by_cases q34 : n = 34
  · subst q34
    simp at hs
    subst hs
    go_enter Tryz.func127, Tryz.ntmps127
    go_wp2_with fail
    go_ret
    exact ⟨rfl, rfl⟩
  have b34 : (((n : Nat) : Int) == 34) = false := by rw [beq_eq_false_iff_ne]; omega
  by_cases q39 : n = 39
  · subst q39
    simp at hs
    subst hs
    go_enter Tryz.func127, Tryz.ntmps127
    go_wp2_with fail
    go_ret
    exact ⟨rfl, rfl⟩
  have b39 : (((n : Nat) : Int) == 39) = false := by rw [beq_eq_false_iff_ne]; omega
  by_cases q38 : n = 38
  · subst q38
    simp at hs
    subst hs
    go_enter Tryz.func127, Tryz.ntmps127
    go_wp2_with fail
    go_ret
    exact ⟨rfl, rfl⟩
  have b38 : (((n : Nat) : Int) == 38) = false := by rw [beq_eq_false_iff_ne]; omega
  have hr : r = -1 := by
    rw [hs]
    repeat' split
    all_goals first | omega | rfl
  subst hr
  clear hs q97 q98 q102 q110 q114 q116 q118 q92 q34 q39 q38
  go_enter Tryz.func127, Tryz.ntmps127
  go_wp2_with fail
  go_ret
  exact ⟨rfl, rfl⟩
theorem refnumber_any (s : ByteArray) (n b : Nat) (hb : 2 ≤ b) (hb2 : b ≤ 16) (hs : s.size ≤ 1125899906842624) (hn : n ≤ s.size) (w : World) :
    Calls Tryz.prog 128 #[.string s, .int .i64 (n : Int), .int .i64 (b : Int)] w fun e w' => e = .returned (.tuple #[.int .i64 (if (digE b (rest s n)).2 = 0 ∨ 1114111 < (digE b (rest s n)).1 then -1 else ((digE b (rest s n)).1 : Int)), .int .i64 ((n + (digE b (rest s n)).2 : Nat) : Int)]) ∧ w = w' := by
  rw [← digG_zero b (by omega)]
  obtain ⟨V, hV⟩ : ∃ V, (digG b 0 (rest s n)).1 = V := ⟨_, rfl⟩
  obtain ⟨R, hR⟩ : ∃ R, (digG b 0 (rest s n)).2 = R := ⟨_, rfl⟩
  rw [hV, hR]
  obtain ⟨X, hX⟩ : ∃ X : Int, (if R = 0 ∨ 1114111 < V then -1 else (V : Int)) = X := ⟨_, rfl⟩
  rw [hX]
  have HV := Lib.hid hV
  have HR := Lib.hid hR
  have HX := Lib.hid hX
  clear hV hR hX
  go_enter Tryz.func128, Tryz.ntmps128
  go_wp2_with fail
  go_loop [1, 8] (fun iv vv => ∃ (p v : Nat), iv = .int .i64 (p : Int) ∧ vv = .int .i64 (v : Int) ∧ n ≤ p ∧ p ≤ s.size ∧ v ≤ 1114111 * 16 + 15 ∧ (digG b (min v 1114112) (rest s p)).1 = V ∧ p + (digG b (min v 1114112) (rest s p)).2 = n + R) (fun iv _ => s.size - (intOf iv).toNat)
  case atStart => exact ⟨n, 0, rfl, rfl, Nat.le_refl _, hn, by omega, HV.out, by rw [show min 0 1114112 = 0 from rfl, HR.out]⟩
  case round =>
    obtain ⟨p, v, rfl, rfl, hp1, hp0, hv0, hv, hr⟩ := hrel
    have HV2 := Lib.hid hv
    have HR2 := Lib.hid hr
    have HP1 := Lib.hid hp1
    clear hv hr
    by_cases hp : p < s.size
    · have hlt := (s[p]).toNat_lt
      have C : Hid (∀ W, Calls Tryz.prog 86 #[.int .i64 (s[p].toNat : Int), .int .i64 (b : Int)] W fun e w' => e = .returned (.int .i64 (Num.dg b s[p])) ∧ W = w') := fun W => refdigit_any ((s[p].toNat : Nat) : Int) b (by omega) (by omega) W
      have hbd := Num.dg_bd b s[p]
      have hcons := rest_cons s p hp
      have hv := HV2.out
      have hr := HR2.out
      rw [hcons, digG] at hv hr
      by_cases hd0 : Num.isD b s[p] = true
      · rw [if_pos hd0] at hv hr
        dsimp only at hv hr
        have hdd : 0 ≤ Num.dg b s[p] := of_decide_eq_true hd0
        obtain ⟨dd, hdd2⟩ : ∃ dd : Nat, Num.dg b s[p] = (dd : Int) := ⟨(Num.dg b s[p]).toNat, by omega⟩
        rw [hdd2] at C hv hr hbd hdd
        rw [Int.toNat_natCast] at hv hr
        have hd15 : dd ≤ 15 := by omega
        have HV3 := Lib.hid hv
        have HR3 := Lib.hid hr
        have hneg : decide ((dd : Int) < 0) = false := decide_eq_false (by omega)
        clear hv hr hd0 hcons hbd hdd hdd2 hp1
        by_cases hvl : v ≤ 1114111
        · have hm1 : ((v : Int) * (b : Int)) = ((v * b : Nat) : Int) := (Int.natCast_mul v b).symm
          have hm0 : v * b ≤ 1114111 * 16 := Nat.mul_le_mul hvl hb2
          have hm2 : (v : Int) * (b : Int) ≤ 17825776 := by omega
          have hm3 : 0 ≤ (v : Int) * (b : Int) := by omega
          have HM := Lib.hid hm1
          have y1 : decide ((v : Int) ≤ 1114111) = true := decide_eq_true (by omega)
          have HV4 : Hid ((digG b (min (v * b + dd) 1114112) (rest s (p + 1))).1 = V) := by
            have := HV3.out
            rw [Nat.min_eq_left (show v ≤ 1114112 by omega)] at this
            exact this
          have HR4 : Hid (p + ((digG b (min (v * b + dd) 1114112) (rest s (p + 1))).2 + 1) = n + R) := by
            have := HR3.out
            rw [Nat.min_eq_left (show v ≤ 1114112 by omega)] at this
            exact this
          clear hm1
          go_wp2_with fail
          refine (C.out _).mono ?_
          rintro e w1 ⟨rfl, rfl⟩
          go_wp2_with fail
          go_round
          case rel =>
            refine ⟨p + 1, v * b + dd, by go_num, ?_, by have := HP1.out; omega, by omega, by omega, HV4.out, by rw [← HR4.out]; omega⟩
            rw [HM.out]
            rfl
          case measure => simp [intOf]; omega
        · have y1 : decide ((v : Int) ≤ 1114111) = false := decide_eq_false (by omega)
          have hmm : min (min v 1114112 * b + dd) 1114112 = min v 1114112 := by
            rw [Nat.min_eq_right (show 1114112 ≤ v by omega)]
            have : 1114112 * 1 ≤ 1114112 * b := Nat.mul_le_mul_left _ (by omega)
            omega
          have HV4 : Hid ((digG b (min v 1114112) (rest s (p + 1))).1 = V) := by
            have := HV3.out
            rw [hmm] at this
            exact this
          have HR4 : Hid (p + ((digG b (min v 1114112) (rest s (p + 1))).2 + 1) = n + R) := by
            have := HR3.out
            rw [hmm] at this
            exact this
          clear hmm
          go_wp2_with fail
          refine (C.out _).mono ?_
          rintro e w1 ⟨rfl, rfl⟩
          go_wp2_with fail
          go_round
          case rel => exact ⟨p + 1, v, by go_num, rfl, by have := HP1.out; omega, by omega, hv0, HV4.out, by rw [← HR4.out]; omega⟩
          case measure => simp [intOf]; omega
      · rw [if_neg hd0] at hv hr
        dsimp only at hv hr
        have hdd : Num.dg b s[p] = -1 := by
          unfold Num.isD at hd0
          have := of_decide_eq_false (Bool.eq_false_iff.2 hd0)
          omega
        rw [hdd] at C
        have hx := HX.out
        clear hd0 hcons hbd hdd
        have HV3 := Lib.hid hv
        obtain rfl : p = n + R := by omega
        clear hr hv
        by_cases h1 : R = 0
        · subst h1
          rw [if_pos (.inl rfl)] at hx
          subst hx
          simp only [Nat.add_zero] at *
          clear hp1 hv0
          go_wp2_with fail
          refine (C.out _).mono ?_
          rintro e w1 ⟨rfl, rfl⟩
          go_wp2_with fail
          go_ret2
          exact ⟨rfl, rfl⟩
        · have y0 : (((n + R : Nat) : Int) == (n : Int)) = false := by rw [beq_eq_false_iff_ne]; omega
          by_cases h2 : 1114111 < v
          · have y1 : decide ((1114111 : Int) < (v : Int)) = true := decide_eq_true (by omega)
            rw [if_pos (.inr (by have := HV3.out; omega))] at hx
            subst hx
            go_wp2_with fail
            refine (C.out _).mono ?_
            rintro e w1 ⟨rfl, rfl⟩
            go_wp2_with fail
            go_ret2
            exact ⟨rfl, rfl⟩
          · have y1 : decide ((1114111 : Int) < (v : Int)) = false := decide_eq_false (by omega)
            have hvv : V = v := by have := HV3.out; omega
            rw [if_neg (by omega), hvv] at hx
            subst hx
            clear hvv
            go_wp2_with fail
            refine (C.out _).mono ?_
            rintro e w1 ⟨rfl, rfl⟩
            go_wp2_with fail
            go_ret2
            exact ⟨rfl, rfl⟩
    · have hv := HV2.out
      have hr := HR2.out
      rw [rest_nil s p (by omega), digG] at hv hr
      dsimp only at hv hr
      have hx := HX.out
      have HV3 := Lib.hid hv
      obtain rfl : p = n + R := by omega
      clear hr hv hp1
      by_cases h1 : R = 0
      · subst h1
        rw [if_pos (.inl rfl)] at hx
        subst hx
        simp only [Nat.add_zero] at *
        go_wp2_with fail
        go_ret2
        exact ⟨rfl, rfl⟩
      · have y0 : (((n + R : Nat) : Int) == (n : Int)) = false := by rw [beq_eq_false_iff_ne]; omega
        by_cases h2 : 1114111 < v
        · have y1 : decide ((1114111 : Int) < (v : Int)) = true := decide_eq_true (by omega)
          rw [if_pos (.inr (by have := HV3.out; omega))] at hx
          subst hx
          go_wp2_with fail
          go_ret2
          exact ⟨rfl, rfl⟩
        · have y1 : decide ((1114111 : Int) < (v : Int)) = false := decide_eq_false (by omega)
          have hvv : V = v := by have := HV3.out; omega
          rw [if_neg (by omega), hvv] at hx
          subst hx
          clear hvv
          go_wp2_with fail
          go_ret2
          exact ⟨rfl, rfl⟩

/-- A block of texts. -/
def Row (w : World) (g : Nat) (L : List (List UInt8)) : Prop := w.heap[g]? = some (.cells (L.map fun x => Value.string ⟨x.toArray⟩).toArray 9 (0, 0))
theorem Row.at_ {w : World} {g : Nat} {L : List (List UInt8)} (h : Row w g L) (k : Nat) (hk : k < L.length) : w.cell? ⟨g, k, none⟩ = some (.string ⟨(L.getD k []).toArray⟩) := by
  rw [cell_of_row w g k _ _ _ h]
  simp [hk]
theorem Row.below {B : Nat} {w w' : World} {g : Nat} {L : List (List UInt8)} (h : Row w g L) (hb : Below B w w') (hg : g < B) : Row w' g L := (hb.block g hg).trans h
def names34 : List (List UInt8) := [[78, 85, 76], [83, 79, 72], [83, 84, 88], [69, 84, 88], [69, 79, 84], [69, 78, 81], [65, 67, 75], [66, 69, 76], [66, 83], [72, 84], [76, 70], [86, 84], [70, 70], [67, 82], [83, 79], [83, 73], [68, 76, 69], [68, 67, 49], [68, 67, 50], [68, 67, 51], [68, 67, 52], [78, 65, 75], [83, 89, 78], [69, 84, 66], [67, 65, 78], [69, 77], [83, 85, 66], [69, 83, 67], [70, 83], [71, 83], [82, 83], [85, 83], [83, 80], [68, 69, 76]]
theorem names34_eq : names34 = namesL ++ [delL] := by decide +kernel
set_option maxRecDepth 100000 in
theorem refnames_any (w : World) : Calls Tryz.prog 129 #[] w fun e w' => e = .returned (.slice (some ⟨w.heap.size, 0, none⟩) 34 34) ∧ Row w' w.heap.size names34 ∧ Below w.heap.size w w' ∧ w.heap.size < w'.heap.size := by
  go_enter Tryz.func129, Tryz.ntmps129
  go_wp2
  go_ret
  exact ⟨rfl, heap_alloc_new w _, (Below.refl _ _).alloc (Nat.le_refl _) _, by rw [World.size_alloc]; omega⟩
theorem begins_any (s : ByteArray) (n : Nat) (m : List UInt8) (hm : m.length ≤ 1000) (hs : s.size ≤ 1125899906842624) (hn : n ≤ s.size) (w : World) :
    Calls Tryz.prog 130 #[.string s, .int .i64 (n : Int), .string ⟨m.toArray⟩] w fun e w' => e = .returned (.bool (beg m (rest s n))) ∧ w = w' := by
  have hml : (⟨m.toArray⟩ : ByteArray).size = m.length := by rw [Lib.size_eq]
  have hmt : (⟨m.toArray⟩ : ByteArray).toList = m := by rw [Lib.toList_data]
  have hrl := rest_len s n
  obtain ⟨r, hr⟩ : ∃ r, beg m (rest s n) = r := ⟨_, rfl⟩
  rw [hr]
  by_cases h1 : n + m.length ≤ s.size
  · have hst := sub_take s n m.length
    have hb : ((s.extract n (n + m.length)).toList == m) = r := by
      rw [Lib.toList_data, hst]
      exact hr
    have hb2 : ((s.extract n (n + m.length)).toList == (⟨m.toArray⟩ : ByteArray).toList) = r := by rw [hmt]; exact hb
    clear hst hb hr hrl
    generalize hml2 : (⟨m.toArray⟩ : ByteArray) = mb at *
    rw [← hml] at h1 hb2
    have x0 : decide ((n : Int) + (mb.size : Int) ≤ (s.size : Int)) = true := decide_eq_true (by omega)
    have x1 : (n : Int) ≤ (n : Int) + (mb.size : Int) := by omega
    have x2 : (n : Int) + (mb.size : Int) ≤ (s.size : Int) := by omega
    have HM := Lib.hid hml
    have HM2 := Lib.hid hml2
    clear hmt hml hml2
    cases r with
    | true =>
      go_enter Tryz.func130, Tryz.ntmps130
      go_wp2_with fail
      go_ret
      exact ⟨rfl, rfl⟩
    | false =>
      go_enter Tryz.func130, Tryz.ntmps130
      go_wp2_with fail
      go_ret
      exact ⟨rfl, rfl⟩
  · have hf : r = false := by
      rw [← hr]
      unfold beg
      rw [beq_eq_false_iff_ne]
      intro e
      have := congrArg List.length e
      rw [List.length_take, hrl] at this
      omega
    subst hf
    generalize hml2 : (⟨m.toArray⟩ : ByteArray) = mb at *
    have x0 : decide ((n : Int) + (mb.size : Int) ≤ (s.size : Int)) = false := decide_eq_false (by omega)
    have x1 : mb.size ≤ 1000 := by omega
    clear hml2 hmt hr hml
    go_enter Tryz.func130, Tryz.ntmps130
    go_wp2_with fail
    go_ret
    exact ⟨rfl, rfl⟩
theorem refrun_any (s : ByteArray) (n : Nat) (hs : s.size ≤ 1125899906842624) (hn : n ≤ s.size) (w : World) :
    Calls Tryz.prog 41 #[.string s, .int .i64 (n : Int), .int .i64 1] w fun e w' => e = .returned (.int .i64 ((n + Wrd.run blkP (rest s n) : Nat) : Int)) ∧ w = w' := by
  have b1 : decide ((n : Int) < 0) = false := decide_eq_false (by omega)
  have b2 : decide (s.size < n) = false := decide_eq_false (by omega)
  go_enter Tryz.func41, Tryz.ntmps41
  go_wp2
  go_loop [1, 6] (fun i _ => ∃ (p : Nat), i = .int .i64 (p : Int) ∧ p ≤ s.size ∧ p + Wrd.run blkP (rest s p) = n + Wrd.run blkP (rest s n)) (fun i _ => s.size - (intOf i).toNat)
  case atStart => exact ⟨n, rfl, hn, rfl⟩
  case round =>
    obtain ⟨p, rfl, hp0, hq⟩ := hrel
    have HQ := Lib.hid hq
    clear hq
    by_cases hp : p < s.size
    · have c1 := fun W => refnext_any s p hs W
      rw [runeAt_rest s p hp] at c1
      dsimp only at c1
      have hw := Wrd.wd_pos (rest s p)
      have hx := Wrd.wd_le (rest s p) (rest_ne s p hp)
      have hl := rest_len s p
      have hst := Wrd.run_step blkP (rest s p) (rest_ne s p hp)
      rw [rest_drop] at hst
      have hsp := Wrd.run_stop blkP (rest s p)
      have hsy : blkP (rn (rest s p)) = (classI (rn (rest s p)) == 1) := rfl
      generalize rn (rest s p) = c at *
      generalize wd (rest s p) = d at *
      have c2 := fun W => refclass_any c W
      generalize classI c = k at *
      have C1 := Lib.hid c1
      have C2 := Lib.hid c2
      have HST := Lib.hid hst
      have HSP := Lib.hid hsp
      clear c1 c2 hst hsp
      by_cases h : k = 1
      · have E : Hid (blkP c = true) := by unfold Hid; rw [hsy, h]; rfl
        have b3 : (k != 1) = false := by rw [bne_eq_false_iff_eq]; exact h
        clear hsy h
        go_wp2_with fail
        refine (C1.out _).mono ?_
        rintro e w1 ⟨rfl, rfl⟩
        go_wp2_with fail
        refine (C2.out _).mono ?_
        rintro e w1 ⟨rfl, rfl⟩
        go_wp2_with fail
        go_round
        case rel => exact ⟨p + d, by go_num, by omega, by rw [← HQ.out, HST.out E.out, Nat.add_assoc]⟩
        case measure => simp [intOf]; omega
      · have E : Hid (blkP c = false) := by unfold Hid; rw [hsy, beq_eq_false_iff_ne]; exact h
        have b3 : (k != 1) = true := by rw [bne_iff_ne]; exact h
        clear hsy h
        go_wp2_with fail
        refine (C1.out _).mono ?_
        rintro e w1 ⟨rfl, rfl⟩
        go_wp2_with fail
        refine (C2.out _).mono ?_
        rintro e w1 ⟨rfl, rfl⟩
        go_wp2_with fail
        go_ret
        refine ⟨?_, rfl⟩
        have := HQ.out
        rw [HSP.out (.inr E.out), Nat.add_zero] at this
        rw [← this]
        rfl
    · go_wp2_with fail
      go_ret
      obtain rfl : p = s.size := by omega
      refine ⟨?_, rfl⟩
      have := HQ.out
      rw [Wrd.run_stop blkP (rest s s.size) (.inl (rest_nil s _ (Nat.le_refl _))), Nat.add_zero] at this
      first | (rw [← this]; rfl) | (rw [← Int.natCast_add, ← this]; rfl)
theorem refgap_any (s : ByteArray) (n : Nat) (hs : s.size ≤ 1125899906842624) (hn : n < s.size) (w : World) :
    Calls Tryz.prog 103 #[.string s, .int .i64 (n : Int)] w fun e w' => e = .returned (.int .i64 (if gapN (rest s n) = 0 then 0 else ((n + gapN (rest s n) : Nat) : Int))) ∧ w = w' := by
  have c1 : Hid (∀ W, Calls Tryz.prog 41 #[.string s, .int .i64 ((n : Int) + 1), .int .i64 1] W fun e w' => e = .returned (.int .i64 ((n + 1 + Wrd.run blkP (rest s (n + 1)) : Nat) : Int)) ∧ W = w') := fun W => refrun_any s (n + 1) hs (by omega) W
  have hg : gapN (rest s n) = if Wrd.run blkP (rest s (n + 1)) ≠ 0 ∧ hd (rest s (n + 1 + Wrd.run blkP (rest s (n + 1)))) = 92 then Wrd.run blkP (rest s (n + 1)) + 2 else 0 := by
    unfold gapN
    rw [rest_drop, rest_drop, Nat.add_assoc]
  have hr := run_blk_le (rest s (n + 1))
  rw [rest_len] at hr
  generalize Wrd.run blkP (rest s (n + 1)) = k at *
  obtain ⟨m, hm⟩ : ∃ m, n + 1 + k = m := ⟨_, rfl⟩
  rw [hm] at c1 hg
  obtain ⟨X, hX⟩ : ∃ X : Int, (if gapN (rest s n) = 0 then 0 else ((n + gapN (rest s n) : Nat) : Int)) = X := ⟨_, rfl⟩
  rw [hX]
  by_cases h0 : k = 0
  · have hG : gapN (rest s n) = 0 := by rw [hg, if_neg (by omega)]
    rw [if_pos hG] at hX
    subst hX
    have x0 : ((((m : Nat) : Int)) == (n : Int) + 1) = true := by rw [beq_iff_eq]; omega
    clear hg hm h0 hr hG
    go_enter Tryz.func103, Tryz.ntmps103
    go_wp2_with fail
    refine (c1.out _).mono ?_
    rintro e w1 ⟨rfl, rfl⟩
    go_wp2_with fail
    go_ret
    exact ⟨rfl, rfl⟩
  · have x0 : (((m : Int)) == (n : Int) + 1) = false := by rw [beq_eq_false_iff_ne]; omega
    by_cases hin : m < s.size
    · have x1 : decide ((s.size : Int) ≤ (m : Int)) = false := decide_eq_false (by omega)
      rw [hd_rest s m hin] at hg
      have hm0 : (0 : Int) ≤ (m : Int) := by omega
      by_cases h1 : s[m].toNat = 92
      · have x2 : (((s[m].toNat : Nat) : Int) != 92) = false := by rw [bne_eq_false_iff_eq]; omega
        rw [if_pos ⟨h0, h1⟩] at hg
        rw [hg, if_neg (by omega)] at hX
        have hX2 : X = (m : Int) + 1 := by omega
        subst hX2
        clear hg h0 h1 hX
        go_enter Tryz.func103, Tryz.ntmps103
        go_wp2_with fail
        refine (c1.out _).mono ?_
        rintro e w1 ⟨rfl, rfl⟩
        go_wp2_with fail
        go_ret
        exact ⟨rfl, rfl⟩
      · have x2 : (((s[m].toNat : Nat) : Int) != 92) = true := by rw [bne_iff_ne]; omega
        rw [if_neg (fun q => h1 q.2)] at hg
        rw [if_pos hg] at hX
        subst hX
        clear hg h0 h1
        go_enter Tryz.func103, Tryz.ntmps103
        go_wp2_with fail
        refine (c1.out _).mono ?_
        rintro e w1 ⟨rfl, rfl⟩
        go_wp2_with fail
        go_ret
        exact ⟨rfl, rfl⟩
    · have x1 : decide ((s.size : Int) ≤ (m : Int)) = true := decide_eq_true (by omega)
      rw [hd_rest_out s m (by omega), if_neg (fun q => by omega)] at hg
      rw [if_pos hg] at hX
      subst hX
      clear hg h0
      go_enter Tryz.func103, Tryz.ntmps103
      go_wp2_with fail
      refine (c1.out _).mono ?_
      rintro e w1 ⟨rfl, rfl⟩
      go_wp2_with fail
      go_ret
      exact ⟨rfl, rfl⟩
end Go.Proofs.YtkehchajgdepaaaGreatDoor.Qt
/-
  The contracts of the document's own escape and one. Condition: the string has at most 2^50 bytes.
-/
namespace Go.Proofs.YtkehchajgdepaaaGreatDoor.Qt
open Go.RowKit Gly
open Wrd (rn wd)
set_option linter.unusedSimpArgs false
set_option linter.unusedVariables false

theorem nameG_app : ∀ (a b : List (List UInt8)) (i : Nat) (L : List UInt8) (acc : Nat × Nat), nameG (a ++ b) i L acc = nameG b (i + a.length) L (nameG a i L acc)
  | [], b, i, L, acc => by rw [List.nil_append, nameG, List.length_nil, Nat.add_zero]
  | m :: a, b, i, L, acc => by
    rw [List.cons_append, nameG, nameG, nameG_app a b, List.length_cons, show i + 1 + a.length = i + (a.length + 1) by omega]
theorem del_apart : ∀ m ∈ namesL, m ≠ delL.take m.length := by decide +kernel
theorem nameG_none (L : List UInt8) (h : beg delL L = true) : nameG namesL 0 L (0, 0) = (0, 0) := by
  rcases nameG_is namesL 0 L (0, 0) with e | ⟨m, h1, h2, -, -⟩
  · exact e
  · exfalso
    have e1 : L.take m.length = m := beq_iff_eq.1 h2
    have e2 : L.take 3 = delL := beq_iff_eq.1 h
    have hl := (names_short m (List.mem_cons_of_mem _ h1)).2.1
    apply del_apart m h1
    rw [← e2, List.take_take, Nat.min_eq_left hl, e1]
/-- The names, all of them, as the document's own row has them. -/
theorem names_all (L : List UInt8) : nameG names34 0 L (0, 0) = if beg delL L = true then (33, 3) else nameE L := by
  rw [names34_eq, nameG_app]
  have hl : namesL.length = 33 := rfl
  rw [hl, nameG, nameG]
  unfold nameE
  by_cases h : beg delL L = true
  · rw [if_pos h, nameG_none L h, if_pos ⟨by show 0 < 3; decide, h⟩]
    rfl
  · rw [if_neg h, if_neg (fun q => h q.2), if_neg h]
theorem nameG34_step (k : Nat) (hk : k < 34) (L : List UInt8) (acc : Nat × Nat) : nameG (names34.drop k) k L acc = nameG (names34.drop (k + 1)) (k + 1) L (if acc.2 < (names34.getD k []).length ∧ beg (names34.getD k []) L = true then (k, (names34.getD k []).length) else acc) := by
  have hl : names34.length = 34 := rfl
  rw [List.drop_eq_getElem_cons (by omega), nameG, List.getD_eq_getElem?_getD, List.getElem?_eq_getElem (by omega)]
  rfl
theorem names34_len : ∀ k, k < 34 → 2 ≤ (names34.getD k []).length ∧ (names34.getD k []).length ≤ 3 := by decide +kernel
/-- What the document's own escape answers of what follows the backslash at byte n: a number (-2 nothing, -1 none), and, if there is one, where it ends. -/
def EscR (n : Nat) (L : List UInt8) (e : Ending) : Prop :=
  ∃ (v E : Int), e = .returned (.tuple #[.int .i64 v, .int .i64 E]) ∧
    ((hd L = 38 ∧ v = -2 ∧ E = (n : Int) + 2) ∨ (hd L ≠ 38 ∧ ((escE L).2 = 0 ∨ 1114111 < (escE L).1) ∧ v = -1) ∨ (hd L ≠ 38 ∧ (escE L).2 ≠ 0 ∧ (escE L).1 ≤ 1114111 ∧ v = ((escE L).1 : Int) ∧ E = ((n + 1 + (escE L).2 : Nat) : Int)))
theorem esc38 (L : List UInt8) (h : hd L = 38) : (escE L).2 = 0 := by
  rcases Nat.eq_zero_or_pos (escE L).2 with h0 | h0
  · exact h0
  · exact absurd h (escE_bytes L (by omega)).2.2.2.2
theorem escape_none (s : ByteArray) (n : Nat) (hs : s.size ≤ 1125899906842624) (hn : n < s.size) (h : ¬ n + 1 < s.size) (w : World) :
    Calls Tryz.prog 104 #[.string s, .int .i64 (n : Int)] w fun e w' => e = .returned (.tuple #[.int .i64 (-1), .int .i64 ((n : Int) + 1)]) ∧ w = w' := by
  have x0 : decide ((s.size : Int) ≤ (n : Int) + 1) = true := decide_eq_true (by omega)
  clear h
  go_enter Tryz.func104, Tryz.ntmps104
  go_wp2_with fail
  go_ret2
  exact ⟨rfl, rfl⟩
theorem escape_short (s : ByteArray) (n : Nat) (hs : s.size ≤ 1125899906842624) (hn : n + 1 < s.size) (v : Int) (hv : (v != -1) = true) (CS : Hid (∀ W, Calls Tryz.prog 127 #[.int .u8 ((s[n + 1].toNat : Nat) : Int)] W fun e w' => e = .returned (.int .i64 v) ∧ W = w')) (w : World) :
    Calls Tryz.prog 104 #[.string s, .int .i64 (n : Int)] w fun e w' => e = .returned (.tuple #[.int .i64 v, .int .i64 ((n : Int) + 1 + 1)]) ∧ w = w' := by
  have x0 : decide ((s.size : Int) ≤ (n : Int) + 1) = false := decide_eq_false (by omega)
  go_enter Tryz.func104, Tryz.ntmps104
  go_wp2_with fail
  refine (CS.out _).mono ?_
  rintro e w1 ⟨rfl, rfl⟩
  go_wp2_with fail
  go_ret2
  exact ⟨rfl, rfl⟩
theorem escape_ctl (s : ByteArray) (n : Nat) (hs : s.size ≤ 1125899906842624) (hn : n + 1 < s.size) (h94 : s[n + 1].toNat = 94) (h2 : n + 1 + 1 < s.size) (h3 : 64 ≤ s[n + 1 + 1].toNat) (h4 : s[n + 1 + 1].toNat ≤ 95) (CS : Hid (∀ W, Calls Tryz.prog 127 #[.int .u8 ((s[n + 1].toNat : Nat) : Int)] W fun e w' => e = .returned (.int .i64 (-1)) ∧ W = w')) (w : World) :
    Calls Tryz.prog 104 #[.string s, .int .i64 (n : Int)] w fun e w' => e = .returned (.tuple #[.int .i64 (((s[n + 1 + 1].toNat : Nat) : Int) - 64), .int .i64 ((n : Int) + 1 + 2)]) ∧ w = w' := by
  have x0 : decide ((s.size : Int) ≤ (n : Int) + 1) = false := decide_eq_false (by omega)
  have b94 : (((s[n + 1].toNat : Nat) : Int) == 94) = true := by rw [beq_iff_eq]; omega
  have y0 : decide ((n : Int) + 1 + 1 < (s.size : Int)) = true := decide_eq_true (by omega)
  have y1 : decide ((64 : Int) ≤ ((s[n + 1 + 1].toNat : Nat) : Int)) = true := decide_eq_true (by omega)
  have y2 : decide (((s[n + 1 + 1].toNat : Nat) : Int) ≤ 95) = true := decide_eq_true (by omega)
  have hlt := (s[n + 1 + 1]).toNat_lt
  clear h94
  go_enter Tryz.func104, Tryz.ntmps104
  go_wp2_with fail
  refine (CS.out _).mono ?_
  rintro e w1 ⟨rfl, rfl⟩
  go_wp2_with fail
  go_ret2
  exact ⟨rfl, rfl⟩
theorem escape_noctl (s : ByteArray) (n : Nat) (hs : s.size ≤ 1125899906842624) (hn : n + 1 < s.size) (h94 : s[n + 1].toNat = 94) (h2 : n + 1 + 1 < s.size) (h3 : s[n + 1 + 1].toNat < 64 ∨ 95 < s[n + 1 + 1].toNat) (CS : Hid (∀ W, Calls Tryz.prog 127 #[.int .u8 ((s[n + 1].toNat : Nat) : Int)] W fun e w' => e = .returned (.int .i64 (-1)) ∧ W = w')) (w : World) :
    Calls Tryz.prog 104 #[.string s, .int .i64 (n : Int)] w fun e w' => e = .returned (.tuple #[.int .i64 (-1), .int .i64 ((n : Int) + 1)]) ∧ w = w' := by
  have x0 : decide ((s.size : Int) ≤ (n : Int) + 1) = false := decide_eq_false (by omega)
  have b94 : (((s[n + 1].toNat : Nat) : Int) == 94) = true := by rw [beq_iff_eq]; omega
  have y0 : decide ((n : Int) + 1 + 1 < (s.size : Int)) = true := decide_eq_true (by omega)
  by_cases h4 : 64 ≤ s[n + 1 + 1].toNat
  · have y1 : decide ((64 : Int) ≤ ((s[n + 1 + 1].toNat : Nat) : Int)) = true := decide_eq_true (by omega)
    have y2 : decide (((s[n + 1 + 1].toNat : Nat) : Int) ≤ 95) = false := decide_eq_false (by omega)
    clear h94 h3 h4
    go_enter Tryz.func104, Tryz.ntmps104
    go_wp2_with fail
    refine (CS.out _).mono ?_
    rintro e w1 ⟨rfl, rfl⟩
    go_wp2_with fail
    go_ret2
    exact ⟨rfl, rfl⟩
  · have y1 : decide ((64 : Int) ≤ ((s[n + 1 + 1].toNat : Nat) : Int)) = false := decide_eq_false (by omega)
    clear h94 h3 h4
    go_enter Tryz.func104, Tryz.ntmps104
    go_wp2_with fail
    refine (CS.out _).mono ?_
    rintro e w1 ⟨rfl, rfl⟩
    go_wp2_with fail
    go_ret2
    exact ⟨rfl, rfl⟩
theorem escape_endctl (s : ByteArray) (n : Nat) (hs : s.size ≤ 1125899906842624) (hn : n + 1 < s.size) (h94 : s[n + 1].toNat = 94) (h2 : ¬ n + 2 < s.size) (CS : Hid (∀ W, Calls Tryz.prog 127 #[.int .u8 ((s[n + 1].toNat : Nat) : Int)] W fun e w' => e = .returned (.int .i64 (-1)) ∧ W = w')) (w : World) :
    Calls Tryz.prog 104 #[.string s, .int .i64 (n : Int)] w fun e w' => e = .returned (.tuple #[.int .i64 (-1), .int .i64 ((n : Int) + 1)]) ∧ w = w' := by
  have x0 : decide ((s.size : Int) ≤ (n : Int) + 1) = false := decide_eq_false (by omega)
  have b94 : (((s[n + 1].toNat : Nat) : Int) == 94) = true := by rw [beq_iff_eq]; omega
  have y0 : decide ((n : Int) + 1 + 1 < (s.size : Int)) = false := decide_eq_false (by omega)
  clear h94 h2
  go_enter Tryz.func104, Tryz.ntmps104
  go_wp2_with fail
  refine (CS.out _).mono ?_
  rintro e w1 ⟨rfl, rfl⟩
  go_wp2_with fail
  go_ret2
  exact ⟨rfl, rfl⟩
theorem escape_oct (s : ByteArray) (n : Nat) (hs : s.size ≤ 1125899906842624) (hn : n + 1 < s.size) (hc : s[n + 1].toNat = 111) (v E : Int) (CS : Hid (∀ W, Calls Tryz.prog 127 #[.int .u8 ((s[n + 1].toNat : Nat) : Int)] W fun e w' => e = .returned (.int .i64 (-1)) ∧ W = w'))
    (CN : Hid (∀ W, Calls Tryz.prog 128 #[.string s, .int .i64 ((n : Int) + 1 + 1), .int .i64 8] W fun e w' => e = .returned (.tuple #[.int .i64 v, .int .i64 E]) ∧ W = w')) (w : World) :
    Calls Tryz.prog 104 #[.string s, .int .i64 (n : Int)] w fun e w' => e = .returned (.tuple #[.int .i64 v, .int .i64 (E)]) ∧ w = w' := by
  have x0 : decide ((s.size : Int) ≤ (n : Int) + 1) = false := decide_eq_false (by omega)
  have b94 : (((s[n + 1].toNat : Nat) : Int) == 94) = false := by rw [beq_eq_false_iff_ne]; omega
  have b111 : (((s[n + 1].toNat : Nat) : Int) == 111) = true := by rw [beq_iff_eq]; omega
  clear hc
  go_enter Tryz.func104, Tryz.ntmps104
  go_wp2_with fail
  refine (CS.out _).mono ?_
  rintro e w1 ⟨rfl, rfl⟩
  go_wp2_with fail
  refine (CN.out _).mono ?_
  rintro e w1 ⟨rfl, rfl⟩
  go_wp2_with fail
  go_ret2
  exact ⟨rfl, rfl⟩
theorem escape_hex (s : ByteArray) (n : Nat) (hs : s.size ≤ 1125899906842624) (hn : n + 1 < s.size) (hc : s[n + 1].toNat = 120) (v E : Int) (CS : Hid (∀ W, Calls Tryz.prog 127 #[.int .u8 ((s[n + 1].toNat : Nat) : Int)] W fun e w' => e = .returned (.int .i64 (-1)) ∧ W = w'))
    (CN : Hid (∀ W, Calls Tryz.prog 128 #[.string s, .int .i64 ((n : Int) + 1 + 1), .int .i64 16] W fun e w' => e = .returned (.tuple #[.int .i64 v, .int .i64 E]) ∧ W = w')) (w : World) :
    Calls Tryz.prog 104 #[.string s, .int .i64 (n : Int)] w fun e w' => e = .returned (.tuple #[.int .i64 v, .int .i64 (E)]) ∧ w = w' := by
  have x0 : decide ((s.size : Int) ≤ (n : Int) + 1) = false := decide_eq_false (by omega)
  have b94 : (((s[n + 1].toNat : Nat) : Int) == 94) = false := by rw [beq_eq_false_iff_ne]; omega
  have b111 : (((s[n + 1].toNat : Nat) : Int) == 111) = false := by rw [beq_eq_false_iff_ne]; omega
  have b120 : (((s[n + 1].toNat : Nat) : Int) == 120) = true := by rw [beq_iff_eq]; omega
  clear hc
  go_enter Tryz.func104, Tryz.ntmps104
  go_wp2_with fail
  refine (CS.out _).mono ?_
  rintro e w1 ⟨rfl, rfl⟩
  go_wp2_with fail
  refine (CN.out _).mono ?_
  rintro e w1 ⟨rfl, rfl⟩
  go_wp2_with fail
  go_ret2
  exact ⟨rfl, rfl⟩
theorem escape_dec (s : ByteArray) (n : Nat) (hs : s.size ≤ 1125899906842624) (hn : n + 1 < s.size) (hc : 48 ≤ s[n + 1].toNat ∧ s[n + 1].toNat ≤ 57) (v E : Int) (CS : Hid (∀ W, Calls Tryz.prog 127 #[.int .u8 ((s[n + 1].toNat : Nat) : Int)] W fun e w' => e = .returned (.int .i64 (-1)) ∧ W = w'))
    (CN : Hid (∀ W, Calls Tryz.prog 128 #[.string s, .int .i64 ((n : Int) + 1), .int .i64 10] W fun e w' => e = .returned (.tuple #[.int .i64 v, .int .i64 E]) ∧ W = w')) (w : World) :
    Calls Tryz.prog 104 #[.string s, .int .i64 (n : Int)] w fun e w' => e = .returned (.tuple #[.int .i64 v, .int .i64 (E)]) ∧ w = w' := by
  have x0 : decide ((s.size : Int) ≤ (n : Int) + 1) = false := decide_eq_false (by omega)
  have b94 : (((s[n + 1].toNat : Nat) : Int) == 94) = false := by rw [beq_eq_false_iff_ne]; omega
  have b111 : (((s[n + 1].toNat : Nat) : Int) == 111) = false := by rw [beq_eq_false_iff_ne]; omega
  have b120 : (((s[n + 1].toNat : Nat) : Int) == 120) = false := by rw [beq_eq_false_iff_ne]; omega
  have y1 : decide ((48 : Int) ≤ ((s[n + 1].toNat : Nat) : Int)) = true := decide_eq_true (by omega)
  have y2 : decide (((s[n + 1].toNat : Nat) : Int) ≤ 57) = true := decide_eq_true (by omega)
  clear hc
  go_enter Tryz.func104, Tryz.ntmps104
  go_wp2_with fail
  refine (CS.out _).mono ?_
  rintro e w1 ⟨rfl, rfl⟩
  go_wp2_with fail
  refine (CN.out _).mono ?_
  rintro e w1 ⟨rfl, rfl⟩
  go_wp2_with fail
  go_ret2
  exact ⟨rfl, rfl⟩
def valN (x y : Nat) : Int := if y = 0 then -1 else (x : Int)
set_option maxHeartbeats 2000000 in
theorem escape_name (s : ByteArray) (n : Nat) (hs : s.size ≤ 1125899906842624) (hn : n + 1 < s.size) (h94 : s[n + 1].toNat ≠ 94) (h111 : s[n + 1].toNat ≠ 111) (h120 : s[n + 1].toNat ≠ 120) (hdg : ¬ (48 ≤ s[n + 1].toNat ∧ s[n + 1].toNat ≤ 57)) (CS : Hid (∀ W, Calls Tryz.prog 127 #[.int .u8 ((s[n + 1].toNat : Nat) : Int)] W fun e w' => e = .returned (.int .i64 (-1)) ∧ W = w')) (w : World) :
    Calls Tryz.prog 104 #[.string s, .int .i64 (n : Int)] w fun e w' => e = .returned (.tuple #[.int .i64 (if (nameE (rest s (n + 1))).2 = 0 then -1 else ((nameE (rest s (n + 1))).1 : Int)), .int .i64 ((n : Int) + 1 + ((nameE (rest s (n + 1))).2 : Int))]) ∧ Below w.heap.size w w' := by
  have x0 : decide ((s.size : Int) ≤ (n : Int) + 1) = false := decide_eq_false (by omega)
  have b94 : (((s[n + 1].toNat : Nat) : Int) == 94) = false := by rw [beq_eq_false_iff_ne]; omega
  have b111 : (((s[n + 1].toNat : Nat) : Int) == 111) = false := by rw [beq_eq_false_iff_ne]; omega
  have b120 : (((s[n + 1].toNat : Nat) : Int) == 120) = false := by rw [beq_eq_false_iff_ne]; omega
  have cb : ∀ (m : List UInt8), m.length ≤ 1000 → ∀ W, Calls Tryz.prog 130 #[.string s, .int .i64 ((n : Int) + 1), .string ⟨m.toArray⟩] W fun e w' => e = .returned (.bool (beg m (rest s (n + 1)))) ∧ W = w' := fun m hm W => begins_any s (n + 1) m hm hs (by omega) W
  have hall := names_all (rest s (n + 1))
  obtain ⟨z, hz⟩ : ∃ z, nameG names34 0 (rest s (n + 1)) (0, 0) = z := ⟨_, rfl⟩
  have hz3 : (nameE (rest s (n + 1))).2 = z.2 ∧ (z.2 ≠ 0 → (nameE (rest s (n + 1))).1 = if z.1 = 33 then 127 else z.1) ∧ z.2 ≤ 3 ∧ z.1 ≤ 33 := by
    rw [hz] at hall
    rw [hall]
    by_cases hb : beg delL (rest s (n + 1)) = true
    · rw [if_pos hb]
      have : nameE (rest s (n + 1)) = (127, 3) := by unfold nameE; rw [if_pos hb]
      rw [this]
      exact ⟨rfl, fun _ => rfl, by decide, by decide⟩
    · rw [if_neg hb]
      have he : nameE (rest s (n + 1)) = nameG namesL 0 (rest s (n + 1)) (0, 0) := by unfold nameE; rw [if_neg hb]
      rw [he]
      rcases nameG_is namesL 0 (rest s (n + 1)) (0, 0) with e | ⟨m, h1, h2, h3, h4⟩
      · rw [e]
        exact ⟨rfl, fun h => absurd rfl h, by decide, by decide⟩
      · have hl : namesL.length = 33 := rfl
        have := (names_short m (List.mem_cons_of_mem _ h1)).2.1
        refine ⟨rfl, fun _ => ?_, by omega, by omega⟩
        rw [if_neg (by omega)]
  obtain ⟨y1, y2, y3, y4⟩ := hz3
  obtain ⟨X, hX⟩ : ∃ X : Int, (if (nameE (rest s (n + 1))).2 = 0 then -1 else ((nameE (rest s (n + 1))).1 : Int)) = X := ⟨_, rfl⟩
  rw [hX, y1]
  rw [y1] at hX
  obtain ⟨x0', hx0'⟩ : ∃ x, (nameE (rest s (n + 1))).1 = x := ⟨_, rfl⟩
  rw [hx0'] at hX y2
  obtain ⟨G, B, hG, hB⟩ : ∃ (G : Nat → Nat → Nat → Nat × Nat) (B : Nat → Bool), (∀ k x y, G k x y = nameG (names34.drop k) k (rest s (n + 1)) (x, y)) ∧ (∀ k, B k = beg (names34.getD k []) (rest s (n + 1))) := ⟨_, _, fun _ _ _ => rfl, fun _ => rfl⟩
  have HZ : Hid (G 0 0 0 = z) := (hG 0 0 0).trans hz
  have HS : Hid (∀ k x y, k < 34 → G k x y = if y < (names34.getD k []).length ∧ B k = true then G (k + 1) k (names34.getD k []).length else G (k + 1) x y) := by
    intro k x y hk
    rw [hG, nameG34_step k hk, hB]
    split
    · rw [hG]
    · rw [hG]
  have HEND : Hid (∀ x y, G 34 x y = (x, y)) := by
    intro x y
    rw [hG, List.drop_eq_nil_of_le (by decide), nameG]
  have HX := Lib.hid hX
  have Y2 := Lib.hid y2
  have CB : Hid (∀ k, k < 34 → ∀ W, Calls Tryz.prog 130 #[.string s, .int .i64 ((n : Int) + 1), .string ⟨(names34.getD k []).toArray⟩] W fun e w' => e = .returned (.bool (B k)) ∧ W = w') := fun k hk W => by
    rw [hB]
    exact cb _ (by have := names34_len k hk; omega) W
  have HDG : Hid (decide ((48 : Int) ≤ ((s[n + 1].toNat : Nat) : Int)) = true → decide (((s[n + 1].toNat : Nat) : Int) ≤ 57) = false) := by
    intro h
    have := of_decide_eq_true h
    exact decide_eq_false (by omega)
  have Y34 := Lib.hid (show z.2 ≤ 3 ∧ z.1 ≤ 33 from ⟨y3, y4⟩)
  clear hall hz hX y1 y2 y3 y4 cb h94 h111 h120 hdg hG hB hx0'
  obtain ⟨z1, z2⟩ := z
  cases y48 : decide ((48 : Int) ≤ ((s[n + 1].toNat : Nat) : Int)) with
  | true =>
    have y57 := HDG.out y48
    go_enter Tryz.func104, Tryz.ntmps104
    go_wp2_with fail
    refine (CS.out _).mono ?_
    rintro e w1 ⟨rfl, rfl⟩
    go_wp2_with fail
    refine (refnames_any _).mono ?_
    rintro e w2 ⟨rfl, hr2, hb2, hl2⟩
    have R2 := Lib.hid hr2
    have HB2 := Lib.hid hb2
    clear hr2 hb2 hl2
    go_wp2_with fail
    go_loop [8, 9, 11] (fun b v i => ∃ (x y k : Nat), b = .int .i64 (y : Int) ∧ v = .int .i64 (valN x y) ∧ i = .int .i64 (k : Int) ∧ k ≤ 34 ∧ G k x y = (z1, z2)) (fun _ _ i => 34 - (intOf i).toNat)
    case atStart => exact ⟨0, 0, 0, rfl, rfl, rfl, by omega, HZ.out⟩
    case round =>
      obtain ⟨x, y, k, rfl, rfl, rfl, hk0, hq⟩ := hrel
      have HQ := Lib.hid hq
      clear hq
      by_cases hk : k < 34
      · have hce := R2.out.at_ k (by show k < 34; exact hk)
        have hst := HS.out k x y hk
        rw [HQ.out] at hst
        have hln := names34_len k hk
        have c2 := fun W => CB.out k hk W
        generalize B k = bk at *
        generalize names34.getD k [] = m at *
        have hml : ((⟨m.toArray⟩ : ByteArray).size) = m.length := by rw [Lib.size_eq]
        generalize (⟨m.toArray⟩ : ByteArray) = mb at *
        have i0 : (0 : Int) ≤ (k : Int) := by omega
        have i1 : (k : Int) < 34 := by omega
        cases hbg : bk with
        | true =>
          subst hbg
          by_cases hy : y < m.length
          · have x2 : decide ((y : Int) < (mb.size : Int)) = true := decide_eq_true (by omega)
            have x3 : decide (y < mb.size) = true := decide_eq_true (by omega)
            rw [if_pos ⟨hy, rfl⟩] at hst
            have HST := Lib.hid hst
            have C2 := Lib.hid c2
            have HML := Lib.hid hml
            have HLN := Lib.hid hln
            clear hst c2 hml hy hln
            go_wp2_with fail
            refine (C2.out _).mono ?_
            rintro e w1 ⟨rfl, rfl⟩
            go_wp2_with fail
            go_round
            case rel => exact ⟨k, m.length, k + 1, by rw [HML.out], by unfold valN; rw [if_neg (by have := HLN.out; omega)], by go_num, by omega, HST.out.symm⟩
            case measure => simp [intOf]; omega
          · have x2 : decide ((y : Int) < (mb.size : Int)) = false := decide_eq_false (by omega)
            have x3 : decide (y < mb.size) = false := decide_eq_false (by omega)
            rw [if_neg (fun q => hy q.1)] at hst
            have HST := Lib.hid hst
            have C2 := Lib.hid c2
            clear hst c2 hml hy hln
            go_wp2_with fail
            refine (C2.out _).mono ?_
            rintro e w1 ⟨rfl, rfl⟩
            go_wp2_with fail
            go_round
            case rel => exact ⟨x, y, k + 1, rfl, rfl, by go_num, by omega, HST.out.symm⟩
            case measure => simp [intOf]; omega
        | false =>
          subst hbg
          rw [if_neg (fun q => by cases q.2)] at hst
          have HST := Lib.hid hst
          have C2 := Lib.hid c2
          clear hst c2 hml hln
          go_wp2_with fail
          refine (C2.out _).mono ?_
          rintro e w1 ⟨rfl, rfl⟩
          go_wp2_with fail
          go_round
          case rel => exact ⟨x, y, k + 1, rfl, rfl, by go_num, by omega, HST.out.symm⟩
          case measure => simp [intOf]; omega
      · obtain rfl : k = 34 := by omega
        have hq := HQ.out
        rw [HEND.out] at hq
        injection hq with hq1 hq2
        subst hq1
        subst hq2
        have y3 : y ≤ 3 := Y34.out.1
        have y4 : x ≤ 33 := Y34.out.2
        have hx : (if y = 0 then -1 else (x0' : Int)) = X := HX.out
        have hy2 : y ≠ 0 → x0' = if x = 33 then 127 else x := Y2.out
        by_cases h0 : y = 0
        · have hv : valN x y = -1 := by unfold valN; rw [if_pos h0]
          rw [if_pos h0] at hx
          rw [hv]
          subst hx
          clear hv h0
          go_wp2_with fail
          go_ret2
          exact ⟨rfl, HB2.out⟩
        · have hv : valN x y = (x : Int) := by unfold valN; rw [if_neg h0]
          rw [if_neg h0, hy2 h0] at hx
          rw [hv]
          by_cases h33 : x = 33
          · rw [if_pos h33] at hx
            subst hx
            subst h33
            clear hv h0
            go_wp2_with fail
            go_ret2
            exact ⟨rfl, HB2.out⟩
          · rw [if_neg h33] at hx
            subst hx
            have x4 : ((x : Int) == 33) = false := by rw [beq_eq_false_iff_ne]; omega
            clear hv h0 h33
            go_wp2_with fail
            go_ret2
            exact ⟨rfl, HB2.out⟩
  | false =>
    go_enter Tryz.func104, Tryz.ntmps104
    go_wp2_with fail
    refine (CS.out _).mono ?_
    rintro e w1 ⟨rfl, rfl⟩
    go_wp2_with fail
    refine (refnames_any _).mono ?_
    rintro e w2 ⟨rfl, hr2, hb2, hl2⟩
    have R2 := Lib.hid hr2
    have HB2 := Lib.hid hb2
    clear hr2 hb2 hl2
    go_wp2_with fail
    go_loop [8, 9, 11] (fun b v i => ∃ (x y k : Nat), b = .int .i64 (y : Int) ∧ v = .int .i64 (valN x y) ∧ i = .int .i64 (k : Int) ∧ k ≤ 34 ∧ G k x y = (z1, z2)) (fun _ _ i => 34 - (intOf i).toNat)
    case atStart => exact ⟨0, 0, 0, rfl, rfl, rfl, by omega, HZ.out⟩
    case round =>
      obtain ⟨x, y, k, rfl, rfl, rfl, hk0, hq⟩ := hrel
      have HQ := Lib.hid hq
      clear hq
      by_cases hk : k < 34
      · have hce := R2.out.at_ k (by show k < 34; exact hk)
        have hst := HS.out k x y hk
        rw [HQ.out] at hst
        have hln := names34_len k hk
        have c2 := fun W => CB.out k hk W
        generalize B k = bk at *
        generalize names34.getD k [] = m at *
        have hml : ((⟨m.toArray⟩ : ByteArray).size) = m.length := by rw [Lib.size_eq]
        generalize (⟨m.toArray⟩ : ByteArray) = mb at *
        have i0 : (0 : Int) ≤ (k : Int) := by omega
        have i1 : (k : Int) < 34 := by omega
        cases hbg : bk with
        | true =>
          subst hbg
          by_cases hy : y < m.length
          · have x2 : decide ((y : Int) < (mb.size : Int)) = true := decide_eq_true (by omega)
            have x3 : decide (y < mb.size) = true := decide_eq_true (by omega)
            rw [if_pos ⟨hy, rfl⟩] at hst
            have HST := Lib.hid hst
            have C2 := Lib.hid c2
            have HML := Lib.hid hml
            have HLN := Lib.hid hln
            clear hst c2 hml hy hln
            go_wp2_with fail
            refine (C2.out _).mono ?_
            rintro e w1 ⟨rfl, rfl⟩
            go_wp2_with fail
            go_round
            case rel => exact ⟨k, m.length, k + 1, by rw [HML.out], by unfold valN; rw [if_neg (by have := HLN.out; omega)], by go_num, by omega, HST.out.symm⟩
            case measure => simp [intOf]; omega
          · have x2 : decide ((y : Int) < (mb.size : Int)) = false := decide_eq_false (by omega)
            have x3 : decide (y < mb.size) = false := decide_eq_false (by omega)
            rw [if_neg (fun q => hy q.1)] at hst
            have HST := Lib.hid hst
            have C2 := Lib.hid c2
            clear hst c2 hml hy hln
            go_wp2_with fail
            refine (C2.out _).mono ?_
            rintro e w1 ⟨rfl, rfl⟩
            go_wp2_with fail
            go_round
            case rel => exact ⟨x, y, k + 1, rfl, rfl, by go_num, by omega, HST.out.symm⟩
            case measure => simp [intOf]; omega
        | false =>
          subst hbg
          rw [if_neg (fun q => by cases q.2)] at hst
          have HST := Lib.hid hst
          have C2 := Lib.hid c2
          clear hst c2 hml hln
          go_wp2_with fail
          refine (C2.out _).mono ?_
          rintro e w1 ⟨rfl, rfl⟩
          go_wp2_with fail
          go_round
          case rel => exact ⟨x, y, k + 1, rfl, rfl, by go_num, by omega, HST.out.symm⟩
          case measure => simp [intOf]; omega
      · obtain rfl : k = 34 := by omega
        have hq := HQ.out
        rw [HEND.out] at hq
        injection hq with hq1 hq2
        subst hq1
        subst hq2
        have y3 : y ≤ 3 := Y34.out.1
        have y4 : x ≤ 33 := Y34.out.2
        have hx : (if y = 0 then -1 else (x0' : Int)) = X := HX.out
        have hy2 : y ≠ 0 → x0' = if x = 33 then 127 else x := Y2.out
        by_cases h0 : y = 0
        · have hv : valN x y = -1 := by unfold valN; rw [if_pos h0]
          rw [if_pos h0] at hx
          rw [hv]
          subst hx
          clear hv h0
          go_wp2_with fail
          go_ret2
          exact ⟨rfl, HB2.out⟩
        · have hv : valN x y = (x : Int) := by unfold valN; rw [if_neg h0]
          rw [if_neg h0, hy2 h0] at hx
          rw [hv]
          by_cases h33 : x = 33
          · rw [if_pos h33] at hx
            subst hx
            subst h33
            clear hv h0
            go_wp2_with fail
            go_ret2
            exact ⟨rfl, HB2.out⟩
          · rw [if_neg h33] at hx
            subst hx
            have x4 : ((x : Int) == 33) = false := by rw [beq_eq_false_iff_ne]; omega
            clear hv h0 h33
            go_wp2_with fail
            go_ret2
            exact ⟨rfl, HB2.out⟩
theorem refescape_any (s : ByteArray) (n : Nat) (hs : s.size ≤ 1125899906842624) (hn : n < s.size) (w : World) :
    Calls Tryz.prog 104 #[.string s, .int .i64 (n : Int)] w fun e w' => EscR n (rest s (n + 1)) e ∧ Below w.heap.size w w' := by
  by_cases hin : n + 1 < s.size
  · have hh := hd_rest s (n + 1) hin
    have hlt := (s[n + 1]).toNat_lt
    have hd1 : (rest s (n + 1)).drop 1 = rest s (n + 2) := rest_drop s (n + 1) 1
    have cs : ∀ W, Calls Tryz.prog 127 #[.int .u8 ((s[n + 1].toNat : Nat) : Int)] W fun e w' => e = .returned (.int .i64 (shortR (hd (rest s (n + 1))))) ∧ W = w' := fun W => by
      rw [hh]
      exact refshort_any _ hlt W
    have hE : escE (rest s (n + 1)) = if short (hd (rest s (n + 1))) ≠ 0 then (short (hd (rest s (n + 1))), 1)
      else if hd (rest s (n + 1)) = 94 then (if 64 ≤ hd (rest s (n + 2)) ∧ hd (rest s (n + 2)) ≤ 95 then (hd (rest s (n + 2)) - 64, 2) else (0, 0))
      else if hd (rest s (n + 1)) = 111 then lettE 8 (rest s (n + 2))
      else if hd (rest s (n + 1)) = 120 then lettE 16 (rest s (n + 2))
      else if 48 ≤ hd (rest s (n + 1)) ∧ hd (rest s (n + 1)) ≤ 57 then digE 10 (rest s (n + 1))
      else nameE (rest s (n + 1)) := by rw [← hd1]; rfl
    by_cases q0 : short (hd (rest s (n + 1))) ≠ 0
    · have hv : shortR (hd (rest s (n + 1))) = (short (hd (rest s (n + 1))) : Int) := by unfold shortR; rw [if_pos q0]
      rw [if_pos q0] at hE
      have h38 : hd (rest s (n + 1)) ≠ 38 := by intro e; rw [e] at q0; exact q0 rfl
      have hsb := short_bd (hd (rest s (n + 1)))
      rw [hv] at cs
      refine (escape_short s n hs hin _ (by rw [bne_iff_ne]; omega) cs w).mono ?_
      rintro e w' ⟨rfl, rfl⟩
      refine ⟨⟨_, _, rfl, .inr (.inr ⟨h38, by rw [hE]; simp, by rw [hE]; dsimp only; omega, by rw [hE], by rw [hE]; dsimp only; omega⟩)⟩, Below.refl _ _⟩
    rw [if_neg q0] at hE
    by_cases q1 : hd (rest s (n + 1)) = 38
    · have hv : shortR (hd (rest s (n + 1))) = -2 := by rw [q1]; decide
      rw [hv] at cs
      refine (escape_short s n hs hin _ (by decide) cs w).mono ?_
      rintro e w' ⟨rfl, rfl⟩
      exact ⟨⟨_, _, rfl, .inl ⟨q1, rfl, by omega⟩⟩, Below.refl _ _⟩
    have hv : shortR (hd (rest s (n + 1))) = -1 := by unfold shortR; rw [if_neg q0, if_neg q1]
    rw [hv] at cs
    by_cases q2 : hd (rest s (n + 1)) = 94
    · rw [if_pos q2] at hE
      rw [hh] at q2
      by_cases h2 : n + 2 < s.size
      · rw [hd_rest s (n + 2) h2] at hE
        by_cases h3 : 64 ≤ s[n + 2].toNat ∧ s[n + 2].toNat ≤ 95
        · rw [if_pos h3] at hE
          have e2 : s[n + 1 + 1] = s[n + 2] := rfl
          refine (escape_ctl s n hs hin q2 h2 h3.1 h3.2 cs w).mono ?_
          rintro e w' ⟨rfl, rfl⟩
          exact ⟨⟨_, _, rfl, .inr (.inr ⟨q1, by rw [hE]; simp, by rw [hE]; dsimp only; omega, by rw [hE]; show ((s[n + 2].toNat : Nat) : Int) - 64 = ((s[n + 2].toNat - 64 : Nat) : Int); omega, by rw [hE]; dsimp only; omega⟩)⟩, Below.refl _ _⟩
        · rw [if_neg h3] at hE
          refine (escape_noctl s n hs hin q2 h2 (by show s[n + 2].toNat < 64 ∨ 95 < s[n + 2].toNat; omega) cs w).mono ?_
          rintro e w' ⟨rfl, rfl⟩
          exact ⟨⟨_, _, rfl, .inr (.inl ⟨q1, .inl (by rw [hE]), rfl⟩)⟩, Below.refl _ _⟩
      · rw [hd_rest_out s (n + 2) (by omega), if_neg (by omega)] at hE
        refine (escape_endctl s n hs hin q2 h2 cs w).mono ?_
        rintro e w' ⟨rfl, rfl⟩
        exact ⟨⟨_, _, rfl, .inr (.inl ⟨q1, .inl (by rw [hE]), rfl⟩)⟩, Below.refl _ _⟩
    rw [if_neg q2] at hE
    have num : ∀ (b : Nat), 2 ≤ b → b ≤ 16 → ∀ W, Calls Tryz.prog 128 #[.string s, .int .i64 ((n : Int) + 1 + 1), .int .i64 (b : Int)] W fun e w' => e = .returned (.tuple #[.int .i64 (if (digE b (rest s (n + 2))).2 = 0 ∨ 1114111 < (digE b (rest s (n + 2))).1 then -1 else ((digE b (rest s (n + 2))).1 : Int)), .int .i64 ((n + 2 + (digE b (rest s (n + 2))).2 : Nat) : Int)]) ∧ W = w' := fun b hb hb2 W => by
      have := refnumber_any s (n + 2) b hb hb2 hs (by omega) W
      have e : ((n + 2 : Nat) : Int) = (n : Int) + 1 + 1 := by omega
      rw [e] at this
      exact this
    have lett : ∀ (b : Nat), lettE b (rest s (n + 2)) = if (digE b (rest s (n + 2))).2 = 0 then (0, 0) else ((digE b (rest s (n + 2))).1, (digE b (rest s (n + 2))).2 + 1) := fun b => rfl
    have fin : ∀ (b : Nat) (w' : World), escE (rest s (n + 1)) = lettE b (rest s (n + 2)) → EscR n (rest s (n + 1)) (.returned (.tuple #[.int .i64 (if (digE b (rest s (n + 2))).2 = 0 ∨ 1114111 < (digE b (rest s (n + 2))).1 then -1 else ((digE b (rest s (n + 2))).1 : Int)), .int .i64 ((n + 2 + (digE b (rest s (n + 2))).2 : Nat) : Int)])) := by
      intro b w' hE
      rw [lett] at hE
      refine ⟨_, _, rfl, .inr ?_⟩
      by_cases h0 : (digE b (rest s (n + 2))).2 = 0
      · rw [if_pos h0] at hE
        exact .inl ⟨q1, .inl (by rw [hE]), by rw [if_pos (.inl h0)]⟩
      · rw [if_neg h0] at hE
        by_cases h1 : 1114111 < (digE b (rest s (n + 2))).1
        · exact .inl ⟨q1, .inr (by rw [hE]; exact h1), by rw [if_pos (.inr h1)]⟩
        · refine .inr ⟨q1, by rw [hE]; simp, by rw [hE]; dsimp only; omega, ?_, by rw [hE]; dsimp only; omega⟩
          rw [if_neg (by omega), hE]
    by_cases q3 : hd (rest s (n + 1)) = 111
    · rw [if_pos q3] at hE
      refine (escape_oct s n hs hin (by omega) _ _ cs (num 8 (by omega) (by omega)) w).mono ?_
      rintro e w' ⟨rfl, rfl⟩
      exact ⟨fin 8 w hE, Below.refl _ _⟩
    rw [if_neg q3] at hE
    by_cases q4 : hd (rest s (n + 1)) = 120
    · rw [if_pos q4] at hE
      refine (escape_hex s n hs hin (by omega) _ _ cs (num 16 (by omega) (by omega)) w).mono ?_
      rintro e w' ⟨rfl, rfl⟩
      exact ⟨fin 16 w hE, Below.refl _ _⟩
    rw [if_neg q4] at hE
    by_cases q5 : 48 ≤ hd (rest s (n + 1)) ∧ hd (rest s (n + 1)) ≤ 57
    · rw [if_pos q5] at hE
      refine (escape_dec s n hs hin (by omega) _ _ cs (fun W => refnumber_any s (n + 1) 10 (by omega) (by omega) hs (by omega) W) w).mono ?_
      rintro e w' ⟨rfl, rfl⟩
      refine ⟨⟨_, _, rfl, .inr ?_⟩, Below.refl _ _⟩
      rw [hE]
      by_cases h0 : (digE 10 (rest s (n + 1))).2 = 0 ∨ 1114111 < (digE 10 (rest s (n + 1))).1
      · exact .inl ⟨q1, h0, by rw [if_pos h0]⟩
      · exact .inr ⟨q1, by omega, by omega, by rw [if_neg h0], rfl⟩
    rw [if_neg q5] at hE
    refine (escape_name s n hs hin (by omega) (by omega) (by omega) (by omega) cs w).mono ?_
    rintro e w' ⟨rfl, hb⟩
    refine ⟨⟨_, _, rfl, .inr ?_⟩, hb⟩
    rw [hE]
    by_cases h0 : (nameE (rest s (n + 1))).2 = 0
    · exact .inl ⟨q1, .inl h0, by rw [if_pos h0]⟩
    · have h127 : (nameE (rest s (n + 1))).1 ≤ 127 := by
        rcases nameE_is (rest s (n + 1)) with e | ⟨m, -, -, -, h⟩
        · rw [e]; decide
        · exact h
      exact .inr ⟨q1, h0, by omega, by rw [if_neg h0], by omega⟩
  · have hr : rest s (n + 1) = [] := rest_nil s _ (by omega)
    refine (escape_none s n hs hn hin w).mono ?_
    rintro e w' ⟨rfl, rfl⟩
    refine ⟨⟨_, _, rfl, .inr (.inl ⟨?_, .inl ?_, rfl⟩)⟩, Below.refl _ _⟩
    · rw [hr]; decide
    · rw [hr]; decide +kernel
end Go.Proofs.YtkehchajgdepaaaGreatDoor.Qt
/-
  The contract of the document's own one: what stands at a byte within a literal. Condition: the string has at most 2^50 bytes.
-/
namespace Go.Proofs.YtkehchajgdepaaaGreatDoor.Qt
open Go.RowKit Gly
open Wrd (rn wd)
set_option linter.unusedSimpArgs false
set_option linter.unusedVariables false

/-- What one answers: a number (-2: none), where it ends, an error. -/
def oneA (n : Nat) (text : Bool) (L : List UInt8) : Int × Int × Int :=
  match pieceL L with
  | .error e => (0, (n : Int), e)
  | .ok p => if text = false ∧ p.form ≠ 0 then (0, (n : Int), 51) else ((if p.form = 0 then (p.num : Int) else -2), ((n + p.bytes.length : Nat) : Int), 0)

theorem one_end (s : ByteArray) (n : Nat) (hs : s.size ≤ 1125899906842624) (hn : ¬ n < s.size) (b : Bool) (w : World) :
    Calls Tryz.prog 87 #[.string s, .int .i64 (n : Int), .bool b] w fun e w' => e = .returned (.tuple #[.int .i64 0, .int .i64 (n : Int), .int .i64 50]) ∧ w = w' := by
  have x0 : decide ((s.size : Int) ≤ (n : Int)) = true := decide_eq_true (by omega)
  have x1 : decide (s.size ≤ n) = true := decide_eq_true (by omega)
  clear hn
  go_enter Tryz.func87, Tryz.ntmps87
  go_wp2_with fail
  go_ret3
  exact ⟨rfl, rfl⟩

theorem one_gap (s : ByteArray) (n : Nat) (hs : s.size ≤ 1125899906842624) (hn : n < s.size) (h92 : s[n].toNat = 92) (G : Nat) (hG : 0 < G) (CG : Hid (∀ W, Calls Tryz.prog 103 #[.string s, .int .i64 (n : Int)] W fun e w' => e = .returned (.int .i64 ((G : Int))) ∧ W = w')) (w : World) :
    Calls Tryz.prog 87 #[.string s, .int .i64 (n : Int), .bool true] w fun e w' => e = .returned (.tuple #[.int .i64 (-2), .int .i64 (G : Int), .int .i64 0]) ∧ w = w' := by
  have x0 : decide ((s.size : Int) ≤ (n : Int)) = false := decide_eq_false (by omega)
  have x1 : (((s[n].toNat : Nat) : Int) == 92) = true := by rw [beq_iff_eq]; omega
  clear h92
  have x2 : decide ((0 : Int) < (G : Int)) = true := decide_eq_true (by omega)
  go_enter Tryz.func87, Tryz.ntmps87
  go_wp2_with fail
  refine (CG.out _).mono ?_
  rintro e w1 ⟨rfl, rfl⟩
  go_wp2_with fail
  refine (CG.out _).mono ?_
  rintro e w1 ⟨rfl, rfl⟩
  go_wp2_with fail
  go_ret3
  exact ⟨rfl, rfl⟩

theorem one_text_38 (s : ByteArray) (n : Nat) (hs : s.size ≤ 1125899906842624) (hn : n < s.size) (h92 : s[n].toNat = 92) (E : Int) (CG : Hid (∀ W, Calls Tryz.prog 103 #[.string s, .int .i64 (n : Int)] W fun e w' => e = .returned (.int .i64 (0)) ∧ W = w')) (CE : Hid (∀ W, Calls Tryz.prog 104 #[.string s, .int .i64 (n : Int)] W fun e w' => (e = .returned (.tuple #[.int .i64 (-2), .int .i64 E])) ∧ Below W.heap.size W w')) (w : World) :
    Calls Tryz.prog 87 #[.string s, .int .i64 (n : Int), .bool true] w fun e w' => e = .returned (.tuple #[.int .i64 (-2), .int .i64 E, .int .i64 0]) ∧ Below w.heap.size w w' := by
  have x0 : decide ((s.size : Int) ≤ (n : Int)) = false := decide_eq_false (by omega)
  have x1 : (((s[n].toNat : Nat) : Int) == 92) = true := by rw [beq_iff_eq]; omega
  clear h92
  go_enter Tryz.func87, Tryz.ntmps87
  go_wp2_with fail
  refine (CG.out _).mono ?_
  rintro e w1 ⟨rfl, rfl⟩
  go_wp2_with fail
  refine (CE.out _).mono ?_
  rintro e w1 ⟨rfl, hb⟩
  have HB := Lib.hid hb
  clear hb
  go_wp2_with fail
  go_ret3
  exact ⟨rfl, HB.out⟩

theorem one_text_ok (s : ByteArray) (n : Nat) (hs : s.size ≤ 1125899906842624) (hn : n < s.size) (h92 : s[n].toNat = 92) (v : Nat) (E : Int) (CG : Hid (∀ W, Calls Tryz.prog 103 #[.string s, .int .i64 (n : Int)] W fun e w' => e = .returned (.int .i64 (0)) ∧ W = w')) (CE : Hid (∀ W, Calls Tryz.prog 104 #[.string s, .int .i64 (n : Int)] W fun e w' => (e = .returned (.tuple #[.int .i64 (v : Int), .int .i64 E])) ∧ Below W.heap.size W w')) (w : World) :
    Calls Tryz.prog 87 #[.string s, .int .i64 (n : Int), .bool true] w fun e w' => e = .returned (.tuple #[.int .i64 (v : Int), .int .i64 E, .int .i64 0]) ∧ Below w.heap.size w w' := by
  have x0 : decide ((s.size : Int) ≤ (n : Int)) = false := decide_eq_false (by omega)
  have x1 : (((s[n].toNat : Nat) : Int) == 92) = true := by rw [beq_iff_eq]; omega
  clear h92
  have x2 : ((v : Int) == -1) = false := by rw [beq_eq_false_iff_ne]; omega
  have x3 : ((v : Int) == -2) = false := by rw [beq_eq_false_iff_ne]; omega
  go_enter Tryz.func87, Tryz.ntmps87
  go_wp2_with fail
  refine (CG.out _).mono ?_
  rintro e w1 ⟨rfl, rfl⟩
  go_wp2_with fail
  refine (CE.out _).mono ?_
  rintro e w1 ⟨rfl, hb⟩
  have HB := Lib.hid hb
  clear hb
  go_wp2_with fail
  go_ret3
  exact ⟨rfl, HB.out⟩

theorem one_text_bad (s : ByteArray) (n : Nat) (hs : s.size ≤ 1125899906842624) (hn : n < s.size) (h92 : s[n].toNat = 92) (CG : Hid (∀ W, Calls Tryz.prog 103 #[.string s, .int .i64 (n : Int)] W fun e w' => e = .returned (.int .i64 (0)) ∧ W = w')) (CE : Hid (∀ W, Calls Tryz.prog 104 #[.string s, .int .i64 (n : Int)] W fun e w' => (∃ E, e = .returned (.tuple #[.int .i64 (-1), .int .i64 E])) ∧ Below W.heap.size W w')) (w : World) :
    Calls Tryz.prog 87 #[.string s, .int .i64 (n : Int), .bool true] w fun e w' => e = .returned (.tuple #[.int .i64 0, .int .i64 (n : Int), .int .i64 51]) ∧ Below w.heap.size w w' := by
  have x0 : decide ((s.size : Int) ≤ (n : Int)) = false := decide_eq_false (by omega)
  have x1 : (((s[n].toNat : Nat) : Int) == 92) = true := by rw [beq_iff_eq]; omega
  clear h92
  go_enter Tryz.func87, Tryz.ntmps87
  go_wp2_with fail
  refine (CG.out _).mono ?_
  rintro e w1 ⟨rfl, rfl⟩
  go_wp2_with fail
  refine (CE.out _).mono ?_
  rintro e w1 ⟨⟨E, rfl⟩, hb⟩
  have HB := Lib.hid hb
  clear hb
  go_wp2_with fail
  go_ret3
  exact ⟨rfl, HB.out⟩

theorem one_char_ok (s : ByteArray) (n : Nat) (hs : s.size ≤ 1125899906842624) (hn : n < s.size) (h92 : s[n].toNat = 92) (v : Nat) (E : Int) (CE : Hid (∀ W, Calls Tryz.prog 104 #[.string s, .int .i64 (n : Int)] W fun e w' => (e = .returned (.tuple #[.int .i64 (v : Int), .int .i64 E])) ∧ Below W.heap.size W w')) (w : World) :
    Calls Tryz.prog 87 #[.string s, .int .i64 (n : Int), .bool false] w fun e w' => e = .returned (.tuple #[.int .i64 (v : Int), .int .i64 E, .int .i64 0]) ∧ Below w.heap.size w w' := by
  have x0 : decide ((s.size : Int) ≤ (n : Int)) = false := decide_eq_false (by omega)
  have x1 : (((s[n].toNat : Nat) : Int) == 92) = true := by rw [beq_iff_eq]; omega
  clear h92
  have x2 : ((v : Int) == -1) = false := by rw [beq_eq_false_iff_ne]; omega
  have x3 : ((v : Int) == -2) = false := by rw [beq_eq_false_iff_ne]; omega
  go_enter Tryz.func87, Tryz.ntmps87
  go_wp2_with fail
  refine (CE.out _).mono ?_
  rintro e w1 ⟨rfl, hb⟩
  have HB := Lib.hid hb
  clear hb
  go_wp2_with fail
  go_ret3
  exact ⟨rfl, HB.out⟩

theorem one_char_bad (s : ByteArray) (n : Nat) (hs : s.size ≤ 1125899906842624) (hn : n < s.size) (h92 : s[n].toNat = 92) (CE : Hid (∀ W, Calls Tryz.prog 104 #[.string s, .int .i64 (n : Int)] W fun e w' => (∃ E, e = .returned (.tuple #[.int .i64 (-1), .int .i64 E])) ∧ Below W.heap.size W w')) (w : World) :
    Calls Tryz.prog 87 #[.string s, .int .i64 (n : Int), .bool false] w fun e w' => e = .returned (.tuple #[.int .i64 0, .int .i64 (n : Int), .int .i64 51]) ∧ Below w.heap.size w w' := by
  have x0 : decide ((s.size : Int) ≤ (n : Int)) = false := decide_eq_false (by omega)
  have x1 : (((s[n].toNat : Nat) : Int) == 92) = true := by rw [beq_iff_eq]; omega
  clear h92
  go_enter Tryz.func87, Tryz.ntmps87
  go_wp2_with fail
  refine (CE.out _).mono ?_
  rintro e w1 ⟨⟨E, rfl⟩, hb⟩
  have HB := Lib.hid hb
  clear hb
  go_wp2_with fail
  go_ret3
  exact ⟨rfl, HB.out⟩

theorem one_char_38 (s : ByteArray) (n : Nat) (hs : s.size ≤ 1125899906842624) (hn : n < s.size) (h92 : s[n].toNat = 92) (CE : Hid (∀ W, Calls Tryz.prog 104 #[.string s, .int .i64 (n : Int)] W fun e w' => (∃ E, e = .returned (.tuple #[.int .i64 (-2), .int .i64 E])) ∧ Below W.heap.size W w')) (w : World) :
    Calls Tryz.prog 87 #[.string s, .int .i64 (n : Int), .bool false] w fun e w' => e = .returned (.tuple #[.int .i64 0, .int .i64 (n : Int), .int .i64 51]) ∧ Below w.heap.size w w' := by
  have x0 : decide ((s.size : Int) ≤ (n : Int)) = false := decide_eq_false (by omega)
  have x1 : (((s[n].toNat : Nat) : Int) == 92) = true := by rw [beq_iff_eq]; omega
  clear h92
  go_enter Tryz.func87, Tryz.ntmps87
  go_wp2_with fail
  refine (CE.out _).mono ?_
  rintro e w1 ⟨⟨E, rfl⟩, hb⟩
  have HB := Lib.hid hb
  clear hb
  go_wp2_with fail
  go_ret3
  exact ⟨rfl, HB.out⟩

theorem one_bad0 (s : ByteArray) (n : Nat) (hs : s.size ≤ 1125899906842624) (hn : n < s.size) (h92 : s[n].toNat ≠ 92) (c d k : Int) (CN : Hid (∀ W, Calls Tryz.prog 37 #[.string s, .int .i64 (n : Int)] W fun e w' => e = .returned (.tuple #[.int .i64 c, .int .i64 d]) ∧ W = w')) (CC : Hid (∀ W, Calls Tryz.prog 38 #[.int .i64 c] W fun e w' => e = .returned (.int .i64 k) ∧ W = w')) (b : Bool) (y0 : (k == 0) = true) (w : World) :
    Calls Tryz.prog 87 #[.string s, .int .i64 (n : Int), .bool b] w fun e w' => e = .returned (.tuple #[.int .i64 0, .int .i64 (n : Int), .int .i64 50]) ∧ w = w' := by
  have x0 : decide ((s.size : Int) ≤ (n : Int)) = false := decide_eq_false (by omega)
  have x1 : (((s[n].toNat : Nat) : Int) == 92) = false := by rw [beq_eq_false_iff_ne]; omega
  clear h92
  go_enter Tryz.func87, Tryz.ntmps87
  go_wp2_with fail
  refine (CN.out _).mono ?_
  rintro e w1 ⟨rfl, rfl⟩
  go_wp2_with fail
  refine (CC.out _).mono ?_
  rintro e w1 ⟨rfl, rfl⟩
  go_wp2_with fail
  go_ret3
  exact ⟨rfl, rfl⟩

theorem one_bad1 (s : ByteArray) (n : Nat) (hs : s.size ≤ 1125899906842624) (hn : n < s.size) (h92 : s[n].toNat ≠ 92) (c d k : Int) (CN : Hid (∀ W, Calls Tryz.prog 37 #[.string s, .int .i64 (n : Int)] W fun e w' => e = .returned (.tuple #[.int .i64 c, .int .i64 d]) ∧ W = w')) (CC : Hid (∀ W, Calls Tryz.prog 38 #[.int .i64 c] W fun e w' => e = .returned (.int .i64 k) ∧ W = w')) (b : Bool) (y0 : (k == 0) = false) (y1 : (k == 1) = true) (y2 : (c != 32) = true) (w : World) :
    Calls Tryz.prog 87 #[.string s, .int .i64 (n : Int), .bool b] w fun e w' => e = .returned (.tuple #[.int .i64 0, .int .i64 (n : Int), .int .i64 50]) ∧ w = w' := by
  have x0 : decide ((s.size : Int) ≤ (n : Int)) = false := decide_eq_false (by omega)
  have x1 : (((s[n].toNat : Nat) : Int) == 92) = false := by rw [beq_eq_false_iff_ne]; omega
  clear h92
  go_enter Tryz.func87, Tryz.ntmps87
  go_wp2_with fail
  refine (CN.out _).mono ?_
  rintro e w1 ⟨rfl, rfl⟩
  go_wp2_with fail
  refine (CC.out _).mono ?_
  rintro e w1 ⟨rfl, rfl⟩
  go_wp2_with fail
  go_ret3
  exact ⟨rfl, rfl⟩

theorem one_bad2 (s : ByteArray) (n : Nat) (hs : s.size ≤ 1125899906842624) (hn : n < s.size) (h92 : s[n].toNat ≠ 92) (c d k : Int) (CN : Hid (∀ W, Calls Tryz.prog 37 #[.string s, .int .i64 (n : Int)] W fun e w' => e = .returned (.tuple #[.int .i64 c, .int .i64 d]) ∧ W = w')) (CC : Hid (∀ W, Calls Tryz.prog 38 #[.int .i64 c] W fun e w' => e = .returned (.int .i64 k) ∧ W = w')) (b : Bool) (y0 : (k == 0) = false) (y1 : (k == 1) = false) (y3 : (c == 65533) = true) (y4 : (d == 1) = true) (w : World) :
    Calls Tryz.prog 87 #[.string s, .int .i64 (n : Int), .bool b] w fun e w' => e = .returned (.tuple #[.int .i64 0, .int .i64 (n : Int), .int .i64 50]) ∧ w = w' := by
  have x0 : decide ((s.size : Int) ≤ (n : Int)) = false := decide_eq_false (by omega)
  have x1 : (((s[n].toNat : Nat) : Int) == 92) = false := by rw [beq_eq_false_iff_ne]; omega
  clear h92
  go_enter Tryz.func87, Tryz.ntmps87
  go_wp2_with fail
  refine (CN.out _).mono ?_
  rintro e w1 ⟨rfl, rfl⟩
  go_wp2_with fail
  refine (CC.out _).mono ?_
  rintro e w1 ⟨rfl, rfl⟩
  go_wp2_with fail
  go_ret3
  exact ⟨rfl, rfl⟩

theorem one_bad3 (s : ByteArray) (n : Nat) (hs : s.size ≤ 1125899906842624) (hn : n < s.size) (h92 : s[n].toNat ≠ 92) (c d k : Int) (CN : Hid (∀ W, Calls Tryz.prog 37 #[.string s, .int .i64 (n : Int)] W fun e w' => e = .returned (.tuple #[.int .i64 c, .int .i64 d]) ∧ W = w')) (CC : Hid (∀ W, Calls Tryz.prog 38 #[.int .i64 c] W fun e w' => e = .returned (.int .i64 k) ∧ W = w')) (b : Bool) (y0 : (k == 0) = false) (y1 : (k == 1) = true) (y2 : (c != 32) = false) (y3 : (c == 65533) = true) (y4 : (d == 1) = true) (w : World) :
    Calls Tryz.prog 87 #[.string s, .int .i64 (n : Int), .bool b] w fun e w' => e = .returned (.tuple #[.int .i64 0, .int .i64 (n : Int), .int .i64 50]) ∧ w = w' := by
  have x0 : decide ((s.size : Int) ≤ (n : Int)) = false := decide_eq_false (by omega)
  have x1 : (((s[n].toNat : Nat) : Int) == 92) = false := by rw [beq_eq_false_iff_ne]; omega
  clear h92
  go_enter Tryz.func87, Tryz.ntmps87
  go_wp2_with fail
  refine (CN.out _).mono ?_
  rintro e w1 ⟨rfl, rfl⟩
  go_wp2_with fail
  refine (CC.out _).mono ?_
  rintro e w1 ⟨rfl, rfl⟩
  go_wp2_with fail
  go_ret3
  exact ⟨rfl, rfl⟩

theorem one_own_aa (s : ByteArray) (n : Nat) (hs : s.size ≤ 1125899906842624) (hn : n < s.size) (h92 : s[n].toNat ≠ 92) (c d k : Int) (CN : Hid (∀ W, Calls Tryz.prog 37 #[.string s, .int .i64 (n : Int)] W fun e w' => e = .returned (.tuple #[.int .i64 c, .int .i64 d]) ∧ W = w')) (CC : Hid (∀ W, Calls Tryz.prog 38 #[.int .i64 c] W fun e w' => e = .returned (.int .i64 k) ∧ W = w')) (hd0 : 0 ≤ d) (hd1 : d ≤ 4) (b : Bool) (y0 : (k == 0) = false) (y1 : (k == 1) = false) (y3 : (c == 65533) = false) (w : World) :
    Calls Tryz.prog 87 #[.string s, .int .i64 (n : Int), .bool b] w fun e w' => e = .returned (.tuple #[.int .i64 c, .int .i64 ((n : Int) + d), .int .i64 0]) ∧ w = w' := by
  have x0 : decide ((s.size : Int) ≤ (n : Int)) = false := decide_eq_false (by omega)
  have x1 : (((s[n].toNat : Nat) : Int) == 92) = false := by rw [beq_eq_false_iff_ne]; omega
  clear h92
  go_enter Tryz.func87, Tryz.ntmps87
  go_wp2_with fail
  refine (CN.out _).mono ?_
  rintro e w1 ⟨rfl, rfl⟩
  go_wp2_with fail
  refine (CC.out _).mono ?_
  rintro e w1 ⟨rfl, rfl⟩
  go_wp2_with fail
  go_ret3
  exact ⟨rfl, rfl⟩

theorem one_own_ab (s : ByteArray) (n : Nat) (hs : s.size ≤ 1125899906842624) (hn : n < s.size) (h92 : s[n].toNat ≠ 92) (c d k : Int) (CN : Hid (∀ W, Calls Tryz.prog 37 #[.string s, .int .i64 (n : Int)] W fun e w' => e = .returned (.tuple #[.int .i64 c, .int .i64 d]) ∧ W = w')) (CC : Hid (∀ W, Calls Tryz.prog 38 #[.int .i64 c] W fun e w' => e = .returned (.int .i64 k) ∧ W = w')) (hd0 : 0 ≤ d) (hd1 : d ≤ 4) (b : Bool) (y0 : (k == 0) = false) (y1 : (k == 1) = false) (y3 : (c == 65533) = true) (y4 : (d == 1) = false) (w : World) :
    Calls Tryz.prog 87 #[.string s, .int .i64 (n : Int), .bool b] w fun e w' => e = .returned (.tuple #[.int .i64 c, .int .i64 ((n : Int) + d), .int .i64 0]) ∧ w = w' := by
  have x0 : decide ((s.size : Int) ≤ (n : Int)) = false := decide_eq_false (by omega)
  have x1 : (((s[n].toNat : Nat) : Int) == 92) = false := by rw [beq_eq_false_iff_ne]; omega
  clear h92
  go_enter Tryz.func87, Tryz.ntmps87
  go_wp2_with fail
  refine (CN.out _).mono ?_
  rintro e w1 ⟨rfl, rfl⟩
  go_wp2_with fail
  refine (CC.out _).mono ?_
  rintro e w1 ⟨rfl, rfl⟩
  go_wp2_with fail
  go_ret3
  exact ⟨rfl, rfl⟩

theorem one_own_ba (s : ByteArray) (n : Nat) (hs : s.size ≤ 1125899906842624) (hn : n < s.size) (h92 : s[n].toNat ≠ 92) (c d k : Int) (CN : Hid (∀ W, Calls Tryz.prog 37 #[.string s, .int .i64 (n : Int)] W fun e w' => e = .returned (.tuple #[.int .i64 c, .int .i64 d]) ∧ W = w')) (CC : Hid (∀ W, Calls Tryz.prog 38 #[.int .i64 c] W fun e w' => e = .returned (.int .i64 k) ∧ W = w')) (hd0 : 0 ≤ d) (hd1 : d ≤ 4) (b : Bool) (y0 : (k == 0) = false) (y1 : (k == 1) = true) (y2 : (c != 32) = false) (y3 : (c == 65533) = false) (w : World) :
    Calls Tryz.prog 87 #[.string s, .int .i64 (n : Int), .bool b] w fun e w' => e = .returned (.tuple #[.int .i64 c, .int .i64 ((n : Int) + d), .int .i64 0]) ∧ w = w' := by
  have x0 : decide ((s.size : Int) ≤ (n : Int)) = false := decide_eq_false (by omega)
  have x1 : (((s[n].toNat : Nat) : Int) == 92) = false := by rw [beq_eq_false_iff_ne]; omega
  clear h92
  go_enter Tryz.func87, Tryz.ntmps87
  go_wp2_with fail
  refine (CN.out _).mono ?_
  rintro e w1 ⟨rfl, rfl⟩
  go_wp2_with fail
  refine (CC.out _).mono ?_
  rintro e w1 ⟨rfl, rfl⟩
  go_wp2_with fail
  go_ret3
  exact ⟨rfl, rfl⟩

theorem one_own_bb (s : ByteArray) (n : Nat) (hs : s.size ≤ 1125899906842624) (hn : n < s.size) (h92 : s[n].toNat ≠ 92) (c d k : Int) (CN : Hid (∀ W, Calls Tryz.prog 37 #[.string s, .int .i64 (n : Int)] W fun e w' => e = .returned (.tuple #[.int .i64 c, .int .i64 d]) ∧ W = w')) (CC : Hid (∀ W, Calls Tryz.prog 38 #[.int .i64 c] W fun e w' => e = .returned (.int .i64 k) ∧ W = w')) (hd0 : 0 ≤ d) (hd1 : d ≤ 4) (b : Bool) (y0 : (k == 0) = false) (y1 : (k == 1) = true) (y2 : (c != 32) = false) (y3 : (c == 65533) = true) (y4 : (d == 1) = false) (w : World) :
    Calls Tryz.prog 87 #[.string s, .int .i64 (n : Int), .bool b] w fun e w' => e = .returned (.tuple #[.int .i64 c, .int .i64 ((n : Int) + d), .int .i64 0]) ∧ w = w' := by
  have x0 : decide ((s.size : Int) ≤ (n : Int)) = false := decide_eq_false (by omega)
  have x1 : (((s[n].toNat : Nat) : Int) == 92) = false := by rw [beq_eq_false_iff_ne]; omega
  clear h92
  go_enter Tryz.func87, Tryz.ntmps87
  go_wp2_with fail
  refine (CN.out _).mono ?_
  rintro e w1 ⟨rfl, rfl⟩
  go_wp2_with fail
  refine (CC.out _).mono ?_
  rintro e w1 ⟨rfl, rfl⟩
  go_wp2_with fail
  go_ret3
  exact ⟨rfl, rfl⟩

theorem refescape_38 (s : ByteArray) (n : Nat) (hs : s.size ≤ 1125899906842624) (hn : n < s.size) (h : hd (rest s (n + 1)) = 38) (w : World) :
    Calls Tryz.prog 104 #[.string s, .int .i64 (n : Int)] w fun e w' => e = .returned (.tuple #[.int .i64 (-2), .int .i64 ((n + 2 : Nat) : Int)]) ∧ Below w.heap.size w w' := by
  refine (refescape_any s n hs hn w).mono ?_
  rintro e w' ⟨⟨v, E, rfl, h1⟩, hb⟩
  rcases h1 with ⟨_, rfl, rfl⟩ | ⟨h2, _⟩ | ⟨h2, _⟩
  · exact ⟨rfl, hb⟩
  · exact absurd h h2
  · exact absurd h h2
theorem refescape_bad (s : ByteArray) (n : Nat) (hs : s.size ≤ 1125899906842624) (hn : n < s.size) (h : hd (rest s (n + 1)) ≠ 38) (h0 : (escE (rest s (n + 1))).2 = 0 ∨ 1114111 < (escE (rest s (n + 1))).1) (w : World) :
    Calls Tryz.prog 104 #[.string s, .int .i64 (n : Int)] w fun e w' => (∃ E, e = .returned (.tuple #[.int .i64 (-1), .int .i64 E])) ∧ Below w.heap.size w w' := by
  refine (refescape_any s n hs hn w).mono ?_
  rintro e w' ⟨⟨v, E, rfl, h1⟩, hb⟩
  rcases h1 with ⟨h2, _⟩ | ⟨_, h2, rfl⟩ | ⟨_, h2, h3, _⟩
  · exact absurd h2 h
  · exact ⟨⟨E, rfl⟩, hb⟩
  · omega
theorem refescape_ok (s : ByteArray) (n : Nat) (hs : s.size ≤ 1125899906842624) (hn : n < s.size) (h0 : (escE (rest s (n + 1))).2 ≠ 0) (h3 : (escE (rest s (n + 1))).1 ≤ 1114111) (w : World) :
    Calls Tryz.prog 104 #[.string s, .int .i64 (n : Int)] w fun e w' => e = .returned (.tuple #[.int .i64 ((escE (rest s (n + 1))).1 : Int), .int .i64 ((n + 1 + (escE (rest s (n + 1))).2 : Nat) : Int)]) ∧ Below w.heap.size w w' := by
  refine (refescape_any s n hs hn w).mono ?_
  rintro e w' ⟨⟨v, E, rfl, h1⟩, hb⟩
  rcases h1 with ⟨h2, _⟩ | ⟨_, h2, rfl⟩ | ⟨_, _, _, rfl, rfl⟩
  · exact absurd (esc38 _ h2) h0
  · omega
  · exact ⟨rfl, hb⟩
theorem one_any (s : ByteArray) (n : Nat) (text : Bool) (hs : s.size ≤ 1125899906842624) (hn0 : n ≤ s.size) (w : World) :
    Calls Tryz.prog 87 #[.string s, .int .i64 (n : Int), .bool text] w fun e w' => e = .returned (.tuple #[.int .i64 (oneA n text (rest s n)).1, .int .i64 (oneA n text (rest s n)).2.1, .int .i64 (oneA n text (rest s n)).2.2]) ∧ Below w.heap.size w w' := by
  have same : ∀ {f : FuncId} {a : Array Value} {x : Ending}, Calls Tryz.prog f a w (fun e w' => e = x ∧ w = w') → Calls Tryz.prog f a w (fun e w' => e = x ∧ Below w.heap.size w w') := by
    intro f a x h
    refine h.mono ?_
    rintro e w' ⟨h1, rfl⟩
    exact ⟨h1, Below.refl _ _⟩
  by_cases hn : n < s.size
  · have hh := hd_rest s n hn
    have hd1 : (rest s n).drop 1 = rest s (n + 1) := rest_drop s n 1
    by_cases h92 : s[n].toNat = 92
    · have hp : pieceL (rest s n) = (if hd (rest s (n + 1)) = 38 then .ok ⟨1, 0, (rest s n).take 2⟩
        else if gapN (rest s n) ≠ 0 then .ok ⟨2, 0, (rest s n).take (gapN (rest s n))⟩
        else if (escE (rest s (n + 1))).2 = 0 ∨ 1114111 < (escE (rest s (n + 1))).1 then .error 51
        else .ok ⟨0, (escE (rest s (n + 1))).1, (rest s n).take (1 + (escE (rest s (n + 1))).2)⟩) := by
        rw [← hd1]
        unfold pieceL
        rw [if_pos (by rw [hh, h92])]
      have cg := fun W => refgap_any s n hs hn W
      by_cases h38 : hd (rest s (n + 1)) = 38
      · have hg0 : gapN (rest s n) = 0 := gap_none _ (by rw [hd1, h38]; decide) (by rw [hd1, h38]; decide)
        rw [hg0, if_pos rfl] at cg
        rw [if_pos h38] at hp
        have ce := fun W => refescape_38 s n hs hn h38 W
        have h2 : ((rest s n).take 2).length = 2 := by
          have := len_of_hd (rest s n) 38 1 (by rw [hd1, h38]) (by omega)
          rw [List.length_take]
          omega
        cases text with
        | true =>
          have e : oneA n true (rest s n) = (-2, ((n + 2 : Nat) : Int), 0) := by
            unfold oneA
            rw [hp]
            dsimp only
            rw [if_neg (by simp), if_neg (by decide), h2]
          rw [e]
          exact one_text_38 s n hs hn h92 _ cg ce w
        | false =>
          have e : oneA n false (rest s n) = (0, (n : Int), 51) := by
            unfold oneA
            rw [hp]
            dsimp only
            rw [if_pos ⟨rfl, by decide⟩]
          rw [e]
          exact one_char_38 s n hs hn h92 (fun W => (ce W).mono fun e w' h => ⟨⟨_, h.1⟩, h.2⟩) w
      · rw [if_neg h38] at hp
        by_cases hbad : (escE (rest s (n + 1))).2 = 0 ∨ 1114111 < (escE (rest s (n + 1))).1
        · have ce := fun W => refescape_bad s n hs hn h38 hbad W
          by_cases hg : gapN (rest s n) = 0
          · rw [hg, if_pos rfl] at cg
            rw [if_neg (by omega), if_pos hbad] at hp
            have e : ∀ b, oneA n b (rest s n) = (0, (n : Int), 51) := fun b => by
              unfold oneA
              rw [hp]
            rw [e]
            cases text with
            | true => exact one_text_bad s n hs hn h92 cg ce w
            | false => exact one_char_bad s n hs hn h92 ce w
          · rw [if_neg hg] at cg
            rw [if_pos hg] at hp
            have hgl : ((rest s n).take (gapN (rest s n))).length = gapN (rest s n) := by
              rcases gap_cases (rest s n) with q | ⟨k, q1, q2, q3, q4, q5⟩
              · exact absurd q hg
              · rw [List.length_take]
                omega
            cases text with
            | true =>
              have e : oneA n true (rest s n) = (-2, ((n + gapN (rest s n) : Nat) : Int), 0) := by
                unfold oneA
                rw [hp]
                dsimp only
                rw [if_neg (by simp), if_neg (by decide), hgl]
              rw [e]
              exact same (one_gap s n hs hn h92 _ (by omega) cg w)
            | false =>
              have e : oneA n false (rest s n) = (0, (n : Int), 51) := by
                unfold oneA
                rw [hp]
                dsimp only
                rw [if_pos ⟨rfl, by decide⟩]
              rw [e]
              exact one_char_bad s n hs hn h92 ce w
        · have h0 : (escE (rest s (n + 1))).2 ≠ 0 := fun q => hbad (.inl q)
          have h3 : (escE (rest s (n + 1))).1 ≤ 1114111 := by omega
          have ce := fun W => refescape_ok s n hs hn h0 h3 W
          obtain ⟨e1, -, e3, e4, -⟩ := escE_bytes _ h0
          have hg0 : gapN (rest s n) = 0 := gap_none _ (by rw [hd1]; exact e3) (by rw [hd1]; omega)
          rw [hg0, if_pos rfl] at cg
          rw [if_neg (by omega), if_neg hbad] at hp
          rw [rest_len] at e1
          have hl : ((rest s n).take (1 + (escE (rest s (n + 1))).2)).length = 1 + (escE (rest s (n + 1))).2 := by
            rw [List.length_take, rest_len]
            omega
          have e : ∀ b, oneA n b (rest s n) = (((escE (rest s (n + 1))).1 : Int), ((n + 1 + (escE (rest s (n + 1))).2 : Nat) : Int), 0) := fun b => by
            unfold oneA
            rw [hp]
            dsimp only
            rw [if_neg (by simp), if_pos rfl, hl, Nat.add_assoc]
          rw [e]
          cases text with
          | true => exact one_text_ok s n hs hn h92 _ _ cg ce w
          | false => exact one_char_ok s n hs hn h92 _ _ ce w
    · have c1 := fun W => refnext_any s (n : Int) hs W
      rw [runeAt_rest s n hn] at c1
      dsimp only at c1
      have hw := Wrd.wd_pos (rest s n)
      have hx := Wrd.wd_le (rest s n) (rest_ne s n hn)
      have hx4 : wd (rest s n) ≤ 4 := by
        rw [wd_rest]
        exact width_four s n
      have c2 := fun W => refclass_any (rn (rest s n)) W
      have hp : pieceL (rest s n) = if mayB (rn (rest s n)) (wd (rest s n)) = true then .ok ⟨0, (rn (rest s n)).toNat, (rest s n).take (wd (rest s n))⟩ else .error 50 := by
        unfold pieceL
        rw [if_neg (by rw [hh]; exact h92)]
        by_cases hm : mayB (rn (rest s n)) (wd (rest s n)) = true
        · rw [if_pos ⟨rest_ne s n hn, hm⟩, if_pos hm]
        · rw [if_neg (fun q => hm q.2), if_neg hm]
      have hlt : ((rest s n).take (wd (rest s n))).length = wd (rest s n) := by
        rw [List.length_take]
        omega
      have hrn0 : 0 ≤ rn (rest s n) := by rw [rn_rest]; omega
      cases hm : mayB (rn (rest s n)) (wd (rest s n)) with
      | false =>
        have e : oneA n text (rest s n) = (0, (n : Int), 50) := by
          unfold oneA
          rw [hp, if_neg (by rw [hm]; decide)]
        rw [e]
        unfold mayB at hm
        by_cases k0 : classI (rn (rest s n)) = 0
        · exact same (one_bad0 s n hs hn h92 _ _ _ c1 c2 text (by rw [beq_iff_eq]; exact k0) w)
        have y0 : (classI (rn (rest s n)) == 0) = false := by rw [beq_eq_false_iff_ne]; exact k0
        by_cases hbad : rn (rest s n) = 65533 ∧ wd (rest s n) = 1
        · have y3 : (rn (rest s n) == 65533) = true := by rw [beq_iff_eq]; exact hbad.1
          have y4 : (((wd (rest s n) : Nat) : Int) == 1) = true := by rw [beq_iff_eq]; omega
          by_cases k1 : classI (rn (rest s n)) = 1
          · exact same (one_bad1 s n hs hn h92 _ _ _ c1 c2 text y0 (by rw [beq_iff_eq]; exact k1) (by rw [bne_iff_ne]; omega) w)
          · exact same (one_bad2 s n hs hn h92 _ _ _ c1 c2 text y0 (by rw [beq_eq_false_iff_ne]; exact k1) y3 y4 w)
        · rw [if_neg hbad, if_neg k0] at hm
          by_cases k1 : classI (rn (rest s n)) = 1
          · rw [if_pos k1] at hm
            exact same (one_bad1 s n hs hn h92 _ _ _ c1 c2 text y0 (by rw [beq_iff_eq]; exact k1) (by rw [bne_iff_ne]; exact of_decide_eq_false hm) w)
          · rw [if_neg k1] at hm
            cases hm
      | true =>
        have e : oneA n text (rest s n) = (rn (rest s n), (n : Int) + ((wd (rest s n) : Nat) : Int), 0) := by
          unfold oneA
          rw [hp, if_pos hm]
          dsimp only
          rw [if_neg (by simp), if_pos rfl, hlt, Int.toNat_of_nonneg hrn0, Int.natCast_add]
        rw [e]
        unfold mayB at hm
        by_cases hbad : rn (rest s n) = 65533 ∧ wd (rest s n) = 1
        · rw [if_pos hbad] at hm
          cases hm
        rw [if_neg hbad] at hm
        by_cases k0 : classI (rn (rest s n)) = 0
        · rw [if_pos k0] at hm
          cases hm
        rw [if_neg k0] at hm
        have y0 : (classI (rn (rest s n)) == 0) = false := by rw [beq_eq_false_iff_ne]; exact k0
        by_cases k1 : classI (rn (rest s n)) = 1
        · rw [if_pos k1] at hm
          have h32 := of_decide_eq_true hm
          have y1 : (classI (rn (rest s n)) == 1) = true := by rw [beq_iff_eq]; exact k1
          exact same (one_own_ba s n hs hn h92 _ _ _ c1 c2 (by omega) (by omega) text y0 y1 (by rw [bne_eq_false_iff_eq]; exact h32) (by rw [beq_eq_false_iff_ne]; omega) w)
        · have y1 : (classI (rn (rest s n)) == 1) = false := by rw [beq_eq_false_iff_ne]; exact k1
          by_cases h6 : rn (rest s n) = 65533
          · exact same (one_own_ab s n hs hn h92 _ _ _ c1 c2 (by omega) (by omega) text y0 y1 (by rw [beq_iff_eq]; exact h6) (by rw [beq_eq_false_iff_ne]; omega) w)
          · exact same (one_own_aa s n hs hn h92 _ _ _ c1 c2 (by omega) (by omega) text y0 y1 (by rw [beq_eq_false_iff_ne]; exact h6) w)
  · have hr := rest_nil s n (by omega)
    have e : oneA n text (rest s n) = (0, (n : Int), 50) := by
      rw [hr]
      rfl
    rw [e]
    exact same (one_end s n hs hn text w)
end Go.Proofs.YtkehchajgdepaaaGreatDoor.Qt
/-
  The contract of the document's own Read. Conditions: the string has at most 2^50 bytes; its characters are at most 2^44.
-/
namespace Go.Proofs.YtkehchajgdepaaaGreatDoor.Qt
open Go.RowKit Gly
open Wrd (rn wd)
set_option linter.unusedSimpArgs false
set_option linter.unusedVariables false

theorem results_tmp4 {fn : Func} {t u v x : Tmp} (h : fn.results = #[.tmp t, .tmp u, .tmp v, .tmp x]) (tmps : Array Value) (P : Program) (w : World) :
    (results fn tmps).run P w = .ok (.tuple #[tmps.getD t undef, tmps.getD u undef, tmps.getD v undef, tmps.getD x undef]) w := by
  simp [results, h]

/-- What Read answers: the error makes the kind and the row. -/
def RdOut (k : Int) (X : List Nat) (E : Nat) (x : Int) (w : World) (e : Ending) (w' : World) : Prop :=
  ∃ v, e = .returned (.tuple #[.int .i64 k, v, .int .i64 (E : Int), .int .i64 x]) ∧ Ints w' w.heap.size v X ∧ Below w.heap.size w w'

set_option maxRecDepth 20000 in
theorem refread_text (s : ByteArray) (n F : Nat) (hs : s.size ≤ 1125899906842624) (hn : n < s.size) (h34 : s[n].toNat = 34) (hF : s.size < n + 1 + F) (X : List Nat) (P : Nat) (x : Int)
    (hX : chs (txtL F (rest s (n + 1))).ps = X) (hP : (txtL F (rest s (n + 1))).pos = P) (hx : (txtL F (rest s (n + 1))).err = x) (hl : X.length ≤ 17592186044416) (w : World) :
    Calls Tryz.prog 68 #[.string s, .int .i64 (n : Int)] w (RdOut (if x = 0 then 14 else 0) (if x = 0 then X else []) (n + 1 + P) x w) := by
  obtain ⟨i0, hi, hz0, hz1, hz2⟩ := info_parts infoInt
  obtain ⟨kk, hkk⟩ : ∃ kk : Int, (if x = 0 then 14 else 0) = kk := ⟨_, rfl⟩
  obtain ⟨Y, hY⟩ : ∃ Y, (if x = 0 then X else []) = Y := ⟨_, rfl⟩
  rw [hkk, hY]
  have HK := Lib.hid hkk
  have HY := Lib.hid hY
  clear hkk hY
  have HX := Lib.hid hX
  have HP := Lib.hid hP
  have HE := Lib.hid hx
  have HL := Lib.hid hl
  have x3 : decide ((n : Int) < 0) = false := decide_eq_false (by omega)
  have x4 : decide ((s.size : Int) ≤ (n : Int)) = false := decide_eq_false (by omega)
  have x5 : decide (s.size ≤ n) = false := decide_eq_false (by omega)
  have x1 : (((s[n].toNat : Nat) : Int) == 34) = true := by rw [beq_iff_eq]; omega
  have x2 : (((s[n].toNat : Nat) : Int) != 34) = false := by rw [bne_eq_false_iff_eq]; omega
  have H34 := Lib.hid h34
  clear hX hP hx hl h34
  go_enter Tryz.func68, Tryz.ntmps68
  go_wp2_with fail
  go_region
  go_wp2_with fail
  go_loopw [10, 11] (fun lv kv wr => ∃ (acc : List Nat) (k f : Nat), kv = .int .i64 (k : Int) ∧ n + 1 ≤ k ∧ k ≤ s.size ∧ s.size < k + f ∧ Ints wr w.heap.size lv acc ∧ Below w.heap.size w wr ∧ acc ++ chs (txtL f (rest s k)).ps = X ∧ k + (txtL f (rest s k)).pos = n + 1 + P ∧ (txtL f (rest s k)).err = x) (fun _ kv _ => s.size - (intOf kv).toNat)
  case atStart => exact ⟨[], n + 1, F, rfl, Nat.le_refl _, by omega, hF, World.ownsRow_nil _ _ _ _, below_drewN (Below.refl _ _) 1, HX.out, by rw [HP.out], HE.out⟩
  case round =>
    obtain ⟨acc, k, f, rfl, hk1, hk0, hf, hown, hbw, ht, hp, he⟩ := hrel
    have OWN := Lib.hid hown
    have BW := Lib.hid hbw
    have c1 := fun W => one_any s k true hs hk0 W
    have hd0 : (0 : Int) ≤ (k : Int) := by omega
    cases f with
    | zero => omega
    | succ f =>
      unfold txtL at ht hp he
      by_cases q : hd (rest s k) = 34
      · rw [if_pos q] at ht hp he
        dsimp only at ht hp he
        have hk : k < s.size := by
          rcases Nat.lt_or_ge k s.size with h | h
          · exact h
          · rw [hd_rest_out s k h] at q
            exact absurd q (by decide)
        rw [hd_rest s k hk] at q
        have e1 : (((s[k].toNat : Nat) : Int) == ((s[n].toNat : Nat) : Int)) = true := by rw [beq_iff_eq, q, H34.out]
        have hXX : Hid (acc = X) := by unfold Hid; rw [← ht]; simp [chs]
        have HPP := Lib.hid hp
        have HEE : Hid (x = 0) := he.symm
        clear ht hp he q hown hbw c1
        go_wp2_with fail
        (try simp only [Exit.inBlock, Exit.then]); refine bodyPost_ret (Go.Proofs.YtkehchajgdepaaaGreatDoor.Qt.results_tmp4 rfl _ _ _) rfl ?_
        have hx0 := HEE.out
        refine ⟨u10, ?_, ?_, BW.out⟩
        · have hpp := HPP.out
          have hkk := HK.out
          rw [if_pos hx0] at hkk
          rw [hx0, ← hkk]
          have : ((n + 1 + P : Nat) : Int) = (k : Int) + 1 := by omega
          rw [this]
          rfl
        · have hY := HY.out
          rw [if_pos hx0, ← hXX.out] at hY
          rw [← hY]
          exact OWN.out
      · rw [if_neg q] at ht hp he
        have hlen := piece_len (rest s k)
        rw [rest_len] at hlen
        by_cases hk : k < s.size
        · rw [hd_rest s k hk] at q
          have e1 : (((s[k].toNat : Nat) : Int) == ((s[n].toNat : Nat) : Int)) = false := by rw [beq_eq_false_iff_ne, H34.out]; omega
          clear q
          unfold oneA at c1
          cases hpc : pieceL (rest s k) with
          | error y =>
            rw [hpc] at c1 ht hp he
            dsimp only at c1 ht hp he
            have C1 := Lib.hid c1
            have HPP := Lib.hid hp
            have HEE := Lib.hid he
            have y0 : (y != 0) = true := by rw [bne_iff_ne]; have := piece_err _ _ hpc; omega
            clear c1 ht hp he hown hbw hlen hpc
            go_wp2_with fail
            refine (C1.out _).mono ?_
            rintro e w1 ⟨rfl, hb1⟩
            have HB1 := Lib.hid (BW.out.trans (hb1.mono BW.out.size))
            clear hb1
            go_wp2_with fail
            (try simp only [Exit.inBlock, Exit.then]); refine bodyPost_ret (Go.Proofs.YtkehchajgdepaaaGreatDoor.Qt.results_tmp4 rfl _ _ _) rfl ?_
            have hx0 : ¬ x = 0 := by rw [← HEE.out]; exact bne_iff_ne.1 y0
            refine ⟨.slice none 0 0, ?_, ?_, HB1.out⟩
            · have hkk := HK.out
              rw [if_neg hx0] at hkk
              rw [← hkk, ← HEE.out, ← HPP.out, Nat.add_zero]
              rfl
            · have hY := HY.out
              rw [if_neg hx0] at hY
              rw [← hY]
              exact World.ownsRow_nil _ _ _ _
          | ok p =>
            rw [hpc] at c1 ht hp he
            dsimp only at c1 ht hp he
            obtain ⟨l1, l2, l3⟩ := hlen p hpc
            rw [rest_drop] at ht hp he
            rw [if_neg (by simp)] at c1
            by_cases h0 : p.form = 0
            · rw [if_pos h0] at c1
              rw [chs_cons, if_pos h0, ← List.append_assoc] at ht
              have hacc : acc.length + 1 ≤ 17592186044416 := by
                have h1 := congrArg List.length ht
                rw [List.length_append, List.length_append] at h1
                have h2 := HL.out
                simp at h1
                omega
              have y0 : decide ((0 : Int) ≤ ((p.num : Nat) : Int)) = true := decide_eq_true (by omega)
              have C1 := Lib.hid c1
              have HTT := Lib.hid ht
              have HPP := Lib.hid hp
              have HEE := Lib.hid he
              clear c1 ht hp he hown hbw hlen hpc l3
              go_wp2_with fail
              refine (C1.out _).mono ?_
              rintro e w1 ⟨rfl, hb1⟩
              have OW1 := Lib.hid (OWN.out.below hb1)
              have HB1 := Lib.hid (BW.out.trans (hb1.mono BW.out.size))
              have hz1 := HB1.out.size
              clear hb1
              go_wp2_with (first | (at_builtin; refine append_int _ rfl _ _ rfl w.heap.size u10 acc rfl (OW1.out.below ((Below.refl _ _).alloc (Nat.le_refl _) _)) ⟨w1.heap.size, 0, none⟩ p.num 1 rfl ?c1 hacc ?c2 ?_))
              case c1 => simp [go_sem]
              case c2 => simp; omega
              intro v' w3 hown' hgrow hblk
              have OWN' := Lib.hid hown'
              have GR := Lib.hid hgrow
              clear hown' hgrow hblk
              have HB3 : Hid (Below w.heap.size w w3) := (HB1.out.alloc HB1.out.size _).grown GR.out (by simp; omega) (fun j hj => (World.ownsRow.lt OW1.out j hj).1)
              go_wp2_with fail
              go_roundw
              case rel => exact ⟨acc ++ [p.num], k + p.bytes.length, f, rfl, by omega, by omega, by omega, OWN'.out, HB3.out, HTT.out, by rw [← HPP.out]; omega, HEE.out⟩
              case measure => simp [intOf]; omega
            · rw [if_neg h0] at c1
              rw [chs_cons, if_neg h0, List.nil_append] at ht
              have C1 := Lib.hid c1
              have HTT := Lib.hid ht
              have HPP := Lib.hid hp
              have HEE := Lib.hid he
              clear c1 ht hp he hown hbw hlen hpc l3 h0
              go_wp2_with fail
              refine (C1.out _).mono ?_
              rintro e w1 ⟨rfl, hb1⟩
              have OW1 := Lib.hid (OWN.out.below hb1)
              have HB1 := Lib.hid (BW.out.trans (hb1.mono BW.out.size))
              clear hb1
              go_wp2_with fail
              go_roundw
              case rel => exact ⟨acc, k + p.bytes.length, f, rfl, by omega, by omega, by omega, OW1.out, HB1.out, HTT.out, by rw [← HPP.out]; omega, HEE.out⟩
              case measure => simp [intOf]; omega
        · have hr : rest s k = [] := rest_nil s k (by omega)
          have ho : oneA k true (rest s k) = (0, (k : Int), 50) := by rw [hr]; rfl
          rw [ho] at c1
          rw [hr] at hp he
          have hpc : pieceL [] = .error 50 := rfl
          rw [hpc] at hp he
          dsimp only at c1 hp he
          have C1 := Lib.hid c1
          have HPP := Lib.hid hp
          have HEE := Lib.hid he
          clear c1 ht hp he hown hbw hlen hr ho q hpc
          go_wp2_with fail
          refine (C1.out _).mono ?_
          rintro e w1 ⟨rfl, hb1⟩
          have HB1 := Lib.hid (BW.out.trans (hb1.mono BW.out.size))
          clear hb1
          go_wp2_with fail
          (try simp only [Exit.inBlock, Exit.then]); refine bodyPost_ret (Go.Proofs.YtkehchajgdepaaaGreatDoor.Qt.results_tmp4 rfl _ _ _) rfl ?_
          have hx0 : ¬ x = 0 := by rw [← HEE.out]; decide
          refine ⟨.slice none 0 0, ?_, ?_, HB1.out⟩
          · have hkk := HK.out
            rw [if_neg hx0] at hkk
            rw [← hkk, ← HEE.out, ← HPP.out, Nat.add_zero]
            rfl
          · have hY := HY.out
            rw [if_neg hx0] at hY
            rw [← hY]
            exact World.ownsRow_nil _ _ _ _
end Go.Proofs.YtkehchajgdepaaaGreatDoor.Qt
