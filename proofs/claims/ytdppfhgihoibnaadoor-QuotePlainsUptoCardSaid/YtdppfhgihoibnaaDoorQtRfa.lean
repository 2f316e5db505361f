/-
  The contracts of the document's own short, number, names, begins, gap. Condition: the string has at most 2^50 bytes.
-/
import Derived.Test.YtdppfhgihoibnaaDoorQtSam
import Derived.Test.YtdppfhgihoibnaaDoorGlyRefn
namespace Go.Proofs.YtdppfhgihoibnaaDoor.Qt
open Go.RowKit Gly
open Wrd (rn wd)
set_option linter.unusedSimpArgs false
set_option linter.unusedVariables false

/-- One sign behind a backslash: -2 nothing, -1 none. -/
def shortR (n : Nat) : Int := if short n ≠ 0 then (short n : Int) else if n = 38 then -2 else -1
theorem shortR_is : ∀ n : Nat, n < 256 → shortR n = if n = 97 then 7 else if n = 98 then 8 else if n = 102 then 12 else if n = 110 then 10 else if n = 114 then 13 else if n = 116 then 9 else if n = 118 then 11 else if n = 92 ∨ n = 34 ∨ n = 39 then (n : Int) else if n = 38 then -2 else -1 := by decide +kernel
theorem refshort_any (n : Nat) (hn : n < 256) (w : World) :
    Calls Tryd.prog 45 #[.int .u8 (n : Int)] w fun e w' => e = .returned (.int .i64 (shortR n)) ∧ w = w' := by
  have hs := shortR_is n hn
  generalize shortR n = r at *
  by_cases q97 : n = 97
  · subst q97
    simp at hs
    subst hs
    go_enter Tryd.func45, Tryd.ntmps45
    go_wp2_with fail
    go_ret
    exact ⟨rfl, rfl⟩
  have b97 : (((n : Nat) : Int) == 97) = false := by rw [beq_eq_false_iff_ne]; omega
  by_cases q98 : n = 98
  · subst q98
    simp at hs
    subst hs
    go_enter Tryd.func45, Tryd.ntmps45
    go_wp2_with fail
    go_ret
    exact ⟨rfl, rfl⟩
  have b98 : (((n : Nat) : Int) == 98) = false := by rw [beq_eq_false_iff_ne]; omega
  by_cases q102 : n = 102
  · subst q102
    simp at hs
    subst hs
    go_enter Tryd.func45, Tryd.ntmps45
    go_wp2_with fail
    go_ret
    exact ⟨rfl, rfl⟩
  have b102 : (((n : Nat) : Int) == 102) = false := by rw [beq_eq_false_iff_ne]; omega
  by_cases q110 : n = 110
  · subst q110
    simp at hs
    subst hs
    go_enter Tryd.func45, Tryd.ntmps45
    go_wp2_with fail
    go_ret
    exact ⟨rfl, rfl⟩
  have b110 : (((n : Nat) : Int) == 110) = false := by rw [beq_eq_false_iff_ne]; omega
  by_cases q114 : n = 114
  · subst q114
    simp at hs
    subst hs
    go_enter Tryd.func45, Tryd.ntmps45
    go_wp2_with fail
    go_ret
    exact ⟨rfl, rfl⟩
  have b114 : (((n : Nat) : Int) == 114) = false := by rw [beq_eq_false_iff_ne]; omega
  by_cases q116 : n = 116
  · subst q116
    simp at hs
    subst hs
    go_enter Tryd.func45, Tryd.ntmps45
    go_wp2_with fail
    go_ret
    exact ⟨rfl, rfl⟩
  have b116 : (((n : Nat) : Int) == 116) = false := by rw [beq_eq_false_iff_ne]; omega
  by_cases q118 : n = 118
  · subst q118
    simp at hs
    subst hs
    go_enter Tryd.func45, Tryd.ntmps45
    go_wp2_with fail
    go_ret
    exact ⟨rfl, rfl⟩
  have b118 : (((n : Nat) : Int) == 118) = false := by rw [beq_eq_false_iff_ne]; omega
  by_cases q92 : n = 92
  · subst q92
    simp at hs
    subst hs
    go_enter Tryd.func45, Tryd.ntmps45
    go_wp2_with fail
    go_ret
    exact ⟨rfl, rfl⟩
  have b92 : (((n : Nat) : Int) == 92) = false := by rw [beq_eq_false_iff_ne]; omega
  by_cases q34 : n = 34
  · subst q34
    simp at hs
    subst hs
    go_enter Tryd.func45, Tryd.ntmps45
    go_wp2_with fail
    go_ret
    exact ⟨rfl, rfl⟩
  have b34 : (((n : Nat) : Int) == 34) = false := by rw [beq_eq_false_iff_ne]; omega
  by_cases q39 : n = 39
  · subst q39
    simp at hs
    subst hs
    go_enter Tryd.func45, Tryd.ntmps45
    go_wp2_with fail
    go_ret
    exact ⟨rfl, rfl⟩
  have b39 : (((n : Nat) : Int) == 39) = false := by rw [beq_eq_false_iff_ne]; omega
  by_cases q38 : n = 38
  · subst q38
    simp at hs
    subst hs
    go_enter Tryd.func45, Tryd.ntmps45
    go_wp2_with fail
    go_ret
    exact ⟨rfl, rfl⟩
  have b38 : (((n : Nat) : Int) == 38) = false := by rw [beq_eq_false_iff_ne]; omega
  have hr : r = -1 := by
    rw [hs]
    repeat' split
    all_goals first | omega | rfl
  subst hr
  clear hs q97 q98 q102 q110 q114 q116 q118 q92 q34 q39 q38
  go_enter Tryd.func45, Tryd.ntmps45
  go_wp2_with fail
  go_ret
  exact ⟨rfl, rfl⟩
theorem refnumber_any (s : ByteArray) (n b : Nat) (hb : 2 ≤ b) (hb2 : b ≤ 16) (hs : s.size ≤ 1125899906842624) (hn : n ≤ s.size) (w : World) :
    Calls Tryd.prog 46 #[.string s, .int .i64 (n : Int), .int .i64 (b : Int)] w fun e w' => e = .returned (.tuple #[.int .i64 (if (digE b (rest s n)).2 = 0 ∨ 1114111 < (digE b (rest s n)).1 then -1 else ((digE b (rest s n)).1 : Int)), .int .i64 ((n + (digE b (rest s n)).2 : Nat) : Int)]) ∧ w = w' := by
  rw [← digG_zero b (by omega)]
  obtain ⟨V, hV⟩ : ∃ V, (digG b 0 (rest s n)).1 = V := ⟨_, rfl⟩
  obtain ⟨R, hR⟩ : ∃ R, (digG b 0 (rest s n)).2 = R := ⟨_, rfl⟩
  rw [hV, hR]
  obtain ⟨X, hX⟩ : ∃ X : Int, (if R = 0 ∨ 1114111 < V then -1 else (V : Int)) = X := ⟨_, rfl⟩
  rw [hX]
  have HV := Lib.hid hV
  have HR := Lib.hid hR
  have HX := Lib.hid hX
  clear hV hR hX
  go_enter Tryd.func46, Tryd.ntmps46
  go_wp2_with fail
  go_loop [1, 8] (fun iv vv => ∃ (p v : Nat), iv = .int .i64 (p : Int) ∧ vv = .int .i64 (v : Int) ∧ n ≤ p ∧ p ≤ s.size ∧ v ≤ 1114111 * 16 + 15 ∧ (digG b (min v 1114112) (rest s p)).1 = V ∧ p + (digG b (min v 1114112) (rest s p)).2 = n + R) (fun iv _ => s.size - (intOf iv).toNat)
  case atStart => exact ⟨n, 0, rfl, rfl, Nat.le_refl _, hn, by omega, HV.out, by rw [show min 0 1114112 = 0 from rfl, HR.out]⟩
  case round =>
    obtain ⟨p, v, rfl, rfl, hp1, hp0, hv0, hv, hr⟩ := hrel
    have HV2 := Lib.hid hv
    have HR2 := Lib.hid hr
    have HP1 := Lib.hid hp1
    clear hv hr
    by_cases hp : p < s.size
    · have hlt := (s[p]).toNat_lt
      have C : Hid (∀ W, Calls Tryd.prog 54 #[.int .i64 (s[p].toNat : Int), .int .i64 (b : Int)] W fun e w' => e = .returned (.int .i64 (Num.dg b s[p])) ∧ W = w') := fun W => refdigit_any ((s[p].toNat : Nat) : Int) b (by omega) (by omega) W
      have hbd := Num.dg_bd b s[p]
      have hcons := rest_cons s p hp
      have hv := HV2.out
      have hr := HR2.out
      rw [hcons, digG] at hv hr
      by_cases hd0 : Num.isD b s[p] = true
      · rw [if_pos hd0] at hv hr
        dsimp only at hv hr
        have hdd : 0 ≤ Num.dg b s[p] := of_decide_eq_true hd0
        obtain ⟨dd, hdd2⟩ : ∃ dd : Nat, Num.dg b s[p] = (dd : Int) := ⟨(Num.dg b s[p]).toNat, by omega⟩
        rw [hdd2] at C hv hr hbd hdd
        rw [Int.toNat_natCast] at hv hr
        have hd15 : dd ≤ 15 := by omega
        have HV3 := Lib.hid hv
        have HR3 := Lib.hid hr
        have hneg : decide ((dd : Int) < 0) = false := decide_eq_false (by omega)
        clear hv hr hd0 hcons hbd hdd hdd2 hp1
        by_cases hvl : v ≤ 1114111
        · have hm1 : ((v : Int) * (b : Int)) = ((v * b : Nat) : Int) := (Int.natCast_mul v b).symm
          have hm0 : v * b ≤ 1114111 * 16 := Nat.mul_le_mul hvl hb2
          have hm2 : (v : Int) * (b : Int) ≤ 17825776 := by omega
          have hm3 : 0 ≤ (v : Int) * (b : Int) := by omega
          have HM := Lib.hid hm1
          have y1 : decide ((v : Int) ≤ 1114111) = true := decide_eq_true (by omega)
          have HV4 : Hid ((digG b (min (v * b + dd) 1114112) (rest s (p + 1))).1 = V) := by
            have := HV3.out
            rw [Nat.min_eq_left (show v ≤ 1114112 by omega)] at this
            exact this
          have HR4 : Hid (p + ((digG b (min (v * b + dd) 1114112) (rest s (p + 1))).2 + 1) = n + R) := by
            have := HR3.out
            rw [Nat.min_eq_left (show v ≤ 1114112 by omega)] at this
            exact this
          clear hm1
          go_wp2_with fail
          refine (C.out _).mono ?_
          rintro e w1 ⟨rfl, rfl⟩
          go_wp2_with fail
          go_round
          case rel =>
            refine ⟨p + 1, v * b + dd, by go_num, ?_, by have := HP1.out; omega, by omega, by omega, HV4.out, by rw [← HR4.out]; omega⟩
            rw [HM.out]
            rfl
          case measure => simp [intOf]; omega
        · have y1 : decide ((v : Int) ≤ 1114111) = false := decide_eq_false (by omega)
          have hmm : min (min v 1114112 * b + dd) 1114112 = min v 1114112 := by
            rw [Nat.min_eq_right (show 1114112 ≤ v by omega)]
            have : 1114112 * 1 ≤ 1114112 * b := Nat.mul_le_mul_left _ (by omega)
            omega
          have HV4 : Hid ((digG b (min v 1114112) (rest s (p + 1))).1 = V) := by
            have := HV3.out
            rw [hmm] at this
            exact this
          have HR4 : Hid (p + ((digG b (min v 1114112) (rest s (p + 1))).2 + 1) = n + R) := by
            have := HR3.out
            rw [hmm] at this
            exact this
          clear hmm
          go_wp2_with fail
          refine (C.out _).mono ?_
          rintro e w1 ⟨rfl, rfl⟩
          go_wp2_with fail
          go_round
          case rel => exact ⟨p + 1, v, by go_num, rfl, by have := HP1.out; omega, by omega, hv0, HV4.out, by rw [← HR4.out]; omega⟩
          case measure => simp [intOf]; omega
      · rw [if_neg hd0] at hv hr
        dsimp only at hv hr
        have hdd : Num.dg b s[p] = -1 := by
          unfold Num.isD at hd0
          have := of_decide_eq_false (Bool.eq_false_iff.2 hd0)
          omega
        rw [hdd] at C
        have hx := HX.out
        clear hd0 hcons hbd hdd
        have HV3 := Lib.hid hv
        obtain rfl : p = n + R := by omega
        clear hr hv
        by_cases h1 : R = 0
        · subst h1
          rw [if_pos (.inl rfl)] at hx
          subst hx
          simp only [Nat.add_zero] at *
          clear hp1 hv0
          go_wp2_with fail
          refine (C.out _).mono ?_
          rintro e w1 ⟨rfl, rfl⟩
          go_wp2_with fail
          go_ret2
          exact ⟨rfl, rfl⟩
        · have y0 : (((n + R : Nat) : Int) == (n : Int)) = false := by rw [beq_eq_false_iff_ne]; omega
          by_cases h2 : 1114111 < v
          · have y1 : decide ((1114111 : Int) < (v : Int)) = true := decide_eq_true (by omega)
            rw [if_pos (.inr (by have := HV3.out; omega))] at hx
            subst hx
            go_wp2_with fail
            refine (C.out _).mono ?_
            rintro e w1 ⟨rfl, rfl⟩
            go_wp2_with fail
            go_ret2
            exact ⟨rfl, rfl⟩
          · have y1 : decide ((1114111 : Int) < (v : Int)) = false := decide_eq_false (by omega)
            have hvv : V = v := by have := HV3.out; omega
            rw [if_neg (by omega), hvv] at hx
            subst hx
            clear hvv
            go_wp2_with fail
            refine (C.out _).mono ?_
            rintro e w1 ⟨rfl, rfl⟩
            go_wp2_with fail
            go_ret2
            exact ⟨rfl, rfl⟩
    · have hv := HV2.out
      have hr := HR2.out
      rw [rest_nil s p (by omega), digG] at hv hr
      dsimp only at hv hr
      have hx := HX.out
      have HV3 := Lib.hid hv
      obtain rfl : p = n + R := by omega
      clear hr hv hp1
      by_cases h1 : R = 0
      · subst h1
        rw [if_pos (.inl rfl)] at hx
        subst hx
        simp only [Nat.add_zero] at *
        go_wp2_with fail
        go_ret2
        exact ⟨rfl, rfl⟩
      · have y0 : (((n + R : Nat) : Int) == (n : Int)) = false := by rw [beq_eq_false_iff_ne]; omega
        by_cases h2 : 1114111 < v
        · have y1 : decide ((1114111 : Int) < (v : Int)) = true := decide_eq_true (by omega)
          rw [if_pos (.inr (by have := HV3.out; omega))] at hx
          subst hx
          go_wp2_with fail
          go_ret2
          exact ⟨rfl, rfl⟩
        · have y1 : decide ((1114111 : Int) < (v : Int)) = false := decide_eq_false (by omega)
          have hvv : V = v := by have := HV3.out; omega
          rw [if_neg (by omega), hvv] at hx
          subst hx
          clear hvv
          go_wp2_with fail
          go_ret2
          exact ⟨rfl, rfl⟩

/-- A block of texts. -/
def Row (w : World) (g : Nat) (L : List (List UInt8)) : Prop := w.heap[g]? = some (.cells (L.map fun x => Value.string ⟨x.toArray⟩).toArray 9 (0, 0))
theorem Row.at_ {w : World} {g : Nat} {L : List (List UInt8)} (h : Row w g L) (k : Nat) (hk : k < L.length) : w.cell? ⟨g, k, none⟩ = some (.string ⟨(L.getD k []).toArray⟩) := by
  rw [cell_of_row w g k _ _ _ h]
  simp [hk]
theorem Row.below {B : Nat} {w w' : World} {g : Nat} {L : List (List UInt8)} (h : Row w g L) (hb : Below B w w') (hg : g < B) : Row w' g L := (hb.block g hg).trans h
def names34 : List (List UInt8) := [[78, 85, 76], [83, 79, 72], [83, 84, 88], [69, 84, 88], [69, 79, 84], [69, 78, 81], [65, 67, 75], [66, 69, 76], [66, 83], [72, 84], [76, 70], [86, 84], [70, 70], [67, 82], [83, 79], [83, 73], [68, 76, 69], [68, 67, 49], [68, 67, 50], [68, 67, 51], [68, 67, 52], [78, 65, 75], [83, 89, 78], [69, 84, 66], [67, 65, 78], [69, 77], [83, 85, 66], [69, 83, 67], [70, 83], [71, 83], [82, 83], [85, 83], [83, 80], [68, 69, 76]]
theorem names34_eq : names34 = namesL ++ [delL] := by decide +kernel
set_option maxRecDepth 100000 in
theorem refnames_any (w : World) : Calls Tryd.prog 47 #[] w fun e w' => e = .returned (.slice (some ⟨w.heap.size, 0, none⟩) 34 34) ∧ Row w' w.heap.size names34 ∧ Below w.heap.size w w' ∧ w.heap.size < w'.heap.size := by
  go_enter Tryd.func47, Tryd.ntmps47
  go_wp2
  go_ret
  exact ⟨rfl, heap_alloc_new w _, (Below.refl _ _).alloc (Nat.le_refl _) _, by rw [World.size_alloc]; omega⟩
theorem begins_any (s : ByteArray) (n : Nat) (m : List UInt8) (hm : m.length ≤ 1000) (hs : s.size ≤ 1125899906842624) (hn : n ≤ s.size) (w : World) :
    Calls Tryd.prog 48 #[.string s, .int .i64 (n : Int), .string ⟨m.toArray⟩] w fun e w' => e = .returned (.bool (beg m (rest s n))) ∧ w = w' := by
  have hml : (⟨m.toArray⟩ : ByteArray).size = m.length := by rw [Lib.size_eq]
  have hmt : (⟨m.toArray⟩ : ByteArray).toList = m := by rw [Lib.toList_data]
  have hrl := rest_len s n
  obtain ⟨r, hr⟩ : ∃ r, beg m (rest s n) = r := ⟨_, rfl⟩
  rw [hr]
  by_cases h1 : n + m.length ≤ s.size
  · have hst := sub_take s n m.length
    have hb : ((s.extract n (n + m.length)).toList == m) = r := by
      rw [Lib.toList_data, hst]
      exact hr
    have hb2 : ((s.extract n (n + m.length)).toList == (⟨m.toArray⟩ : ByteArray).toList) = r := by rw [hmt]; exact hb
    clear hst hb hr hrl
    generalize hml2 : (⟨m.toArray⟩ : ByteArray) = mb at *
    rw [← hml] at h1 hb2
    have x0 : decide ((n : Int) + (mb.size : Int) ≤ (s.size : Int)) = true := decide_eq_true (by omega)
    have x1 : (n : Int) ≤ (n : Int) + (mb.size : Int) := by omega
    have x2 : (n : Int) + (mb.size : Int) ≤ (s.size : Int) := by omega
    have HM := Lib.hid hml
    have HM2 := Lib.hid hml2
    clear hmt hml hml2
    cases r with
    | true =>
      go_enter Tryd.func48, Tryd.ntmps48
      go_wp2_with fail
      go_ret
      exact ⟨rfl, rfl⟩
    | false =>
      go_enter Tryd.func48, Tryd.ntmps48
      go_wp2_with fail
      go_ret
      exact ⟨rfl, rfl⟩
  · have hf : r = false := by
      rw [← hr]
      unfold beg
      rw [beq_eq_false_iff_ne]
      intro e
      have := congrArg List.length e
      rw [List.length_take, hrl] at this
      omega
    subst hf
    generalize hml2 : (⟨m.toArray⟩ : ByteArray) = mb at *
    have x0 : decide ((n : Int) + (mb.size : Int) ≤ (s.size : Int)) = false := decide_eq_false (by omega)
    have x1 : mb.size ≤ 1000 := by omega
    clear hml2 hmt hr hml
    go_enter Tryd.func48, Tryd.ntmps48
    go_wp2_with fail
    go_ret
    exact ⟨rfl, rfl⟩
theorem refrun_any (s : ByteArray) (n : Nat) (hs : s.size ≤ 1125899906842624) (hn : n ≤ s.size) (w : World) :
    Calls Tryd.prog 44 #[.string s, .int .i64 (n : Int), .int .i64 1] w fun e w' => e = .returned (.int .i64 ((n + Wrd.run blkP (rest s n) : Nat) : Int)) ∧ w = w' := by
  have b1 : decide ((n : Int) < 0) = false := decide_eq_false (by omega)
  have b2 : decide (s.size < n) = false := decide_eq_false (by omega)
  go_enter Tryd.func44, Tryd.ntmps44
  go_wp2
  go_loop [1, 6] (fun i _ => ∃ (p : Nat), i = .int .i64 (p : Int) ∧ p ≤ s.size ∧ p + Wrd.run blkP (rest s p) = n + Wrd.run blkP (rest s n)) (fun i _ => s.size - (intOf i).toNat)
  case atStart => exact ⟨n, rfl, hn, rfl⟩
  case round =>
    obtain ⟨p, rfl, hp0, hq⟩ := hrel
    have HQ := Lib.hid hq
    clear hq
    by_cases hp : p < s.size
    · have c1 := fun W => refnext_any s p hs W
      rw [runeAt_rest s p hp] at c1
      dsimp only at c1
      have hw := Wrd.wd_pos (rest s p)
      have hx := Wrd.wd_le (rest s p) (rest_ne s p hp)
      have hl := rest_len s p
      have hst := Wrd.run_step blkP (rest s p) (rest_ne s p hp)
      rw [rest_drop] at hst
      have hsp := Wrd.run_stop blkP (rest s p)
      have hsy : blkP (rn (rest s p)) = (classI (rn (rest s p)) == 1) := rfl
      generalize rn (rest s p) = c at *
      generalize wd (rest s p) = d at *
      have c2 := fun W => refclass_any c W
      generalize classI c = k at *
      have C1 := Lib.hid c1
      have C2 := Lib.hid c2
      have HST := Lib.hid hst
      have HSP := Lib.hid hsp
      clear c1 c2 hst hsp
      by_cases h : k = 1
      · have E : Hid (blkP c = true) := by unfold Hid; rw [hsy, h]; rfl
        have b3 : (k != 1) = false := by rw [bne_eq_false_iff_eq]; exact h
        clear hsy h
        go_wp2_with fail
        refine (C1.out _).mono ?_
        rintro e w1 ⟨rfl, rfl⟩
        go_wp2_with fail
        refine (C2.out _).mono ?_
        rintro e w1 ⟨rfl, rfl⟩
        go_wp2_with fail
        go_round
        case rel => exact ⟨p + d, by go_num, by omega, by rw [← HQ.out, HST.out E.out, Nat.add_assoc]⟩
        case measure => simp [intOf]; omega
      · have E : Hid (blkP c = false) := by unfold Hid; rw [hsy, beq_eq_false_iff_ne]; exact h
        have b3 : (k != 1) = true := by rw [bne_iff_ne]; exact h
        clear hsy h
        go_wp2_with fail
        refine (C1.out _).mono ?_
        rintro e w1 ⟨rfl, rfl⟩
        go_wp2_with fail
        refine (C2.out _).mono ?_
        rintro e w1 ⟨rfl, rfl⟩
        go_wp2_with fail
        go_ret
        refine ⟨?_, rfl⟩
        have := HQ.out
        rw [HSP.out (.inr E.out), Nat.add_zero] at this
        rw [← this]
        rfl
    · go_wp2_with fail
      go_ret
      obtain rfl : p = s.size := by omega
      refine ⟨?_, rfl⟩
      have := HQ.out
      rw [Wrd.run_stop blkP (rest s s.size) (.inl (rest_nil s _ (Nat.le_refl _))), Nat.add_zero] at this
      first | (rw [← this]; rfl) | (rw [← Int.natCast_add, ← this]; rfl)
theorem refgap_any (s : ByteArray) (n : Nat) (hs : s.size ≤ 1125899906842624) (hn : n < s.size) (w : World) :
    Calls Tryd.prog 34 #[.string s, .int .i64 (n : Int)] w fun e w' => e = .returned (.int .i64 (if gapN (rest s n) = 0 then 0 else ((n + gapN (rest s n) : Nat) : Int))) ∧ w = w' := by
  have c1 : Hid (∀ W, Calls Tryd.prog 44 #[.string s, .int .i64 ((n : Int) + 1), .int .i64 1] W fun e w' => e = .returned (.int .i64 ((n + 1 + Wrd.run blkP (rest s (n + 1)) : Nat) : Int)) ∧ W = w') := fun W => refrun_any s (n + 1) hs (by omega) W
  have hg : gapN (rest s n) = if Wrd.run blkP (rest s (n + 1)) ≠ 0 ∧ hd (rest s (n + 1 + Wrd.run blkP (rest s (n + 1)))) = 92 then Wrd.run blkP (rest s (n + 1)) + 2 else 0 := by
    unfold gapN
    rw [rest_drop, rest_drop, Nat.add_assoc]
  have hr := run_blk_le (rest s (n + 1))
  rw [rest_len] at hr
  generalize Wrd.run blkP (rest s (n + 1)) = k at *
  obtain ⟨m, hm⟩ : ∃ m, n + 1 + k = m := ⟨_, rfl⟩
  rw [hm] at c1 hg
  obtain ⟨X, hX⟩ : ∃ X : Int, (if gapN (rest s n) = 0 then 0 else ((n + gapN (rest s n) : Nat) : Int)) = X := ⟨_, rfl⟩
  rw [hX]
  by_cases h0 : k = 0
  · have hG : gapN (rest s n) = 0 := by rw [hg, if_neg (by omega)]
    rw [if_pos hG] at hX
    subst hX
    have x0 : ((((m : Nat) : Int)) == (n : Int) + 1) = true := by rw [beq_iff_eq]; omega
    clear hg hm h0 hr hG
    go_enter Tryd.func34, Tryd.ntmps34
    go_wp2_with fail
    refine (c1.out _).mono ?_
    rintro e w1 ⟨rfl, rfl⟩
    go_wp2_with fail
    go_ret
    exact ⟨rfl, rfl⟩
  · have x0 : (((m : Int)) == (n : Int) + 1) = false := by rw [beq_eq_false_iff_ne]; omega
    by_cases hin : m < s.size
    · have x1 : decide ((s.size : Int) ≤ (m : Int)) = false := decide_eq_false (by omega)
      rw [hd_rest s m hin] at hg
      have hm0 : (0 : Int) ≤ (m : Int) := by omega
      by_cases h1 : s[m].toNat = 92
      · have x2 : (((s[m].toNat : Nat) : Int) != 92) = false := by rw [bne_eq_false_iff_eq]; omega
        rw [if_pos ⟨h0, h1⟩] at hg
        rw [hg, if_neg (by omega)] at hX
        have hX2 : X = (m : Int) + 1 := by omega
        subst hX2
        clear hg h0 h1 hX
        go_enter Tryd.func34, Tryd.ntmps34
        go_wp2_with fail
        refine (c1.out _).mono ?_
        rintro e w1 ⟨rfl, rfl⟩
        go_wp2_with fail
        go_ret
        exact ⟨rfl, rfl⟩
      · have x2 : (((s[m].toNat : Nat) : Int) != 92) = true := by rw [bne_iff_ne]; omega
        rw [if_neg (fun q => h1 q.2)] at hg
        rw [if_pos hg] at hX
        subst hX
        clear hg h0 h1
        go_enter Tryd.func34, Tryd.ntmps34
        go_wp2_with fail
        refine (c1.out _).mono ?_
        rintro e w1 ⟨rfl, rfl⟩
        go_wp2_with fail
        go_ret
        exact ⟨rfl, rfl⟩
    · have x1 : decide ((s.size : Int) ≤ (m : Int)) = true := decide_eq_true (by omega)
      rw [hd_rest_out s m (by omega), if_neg (fun q => by omega)] at hg
      rw [if_pos hg] at hX
      subst hX
      clear hg h0
      go_enter Tryd.func34, Tryd.ntmps34
      go_wp2_with fail
      refine (c1.out _).mono ?_
      rintro e w1 ⟨rfl, rfl⟩
      go_wp2_with fail
      go_ret
      exact ⟨rfl, rfl⟩
end Go.Proofs.YtdppfhgihoibnaaDoor.Qt
