/-
  The contracts of package quote's named and escape. Conditions: the string has at most 2^50 bytes; the program's list of names stands.
-/
import Derived.Test.YtkehchajgdepaaaGreatDoorZQtA
import Derived.Laws.Rows
import Derived.Lib.LaidTab
namespace Go.Proofs.YtkehchajgdepaaaGreatDoor.Qt
open Go.RowKit Gly
open Wrd (rn wd)
set_option linter.unusedSimpArgs false
set_option linter.unusedVariables false

/-- The program's list of names, by the name that the rows list it under. -/
def namN : String := (Rows.lexTellsRow.laid.map fun p => p.1).getD 1 "" -- 3
def namCs : Array Value := (namesL.map fun x => Value.string ⟨x.toArray⟩).toArray
def Nam (w : World) : Prop := w.var? Tryz.prog namN = some namCs
theorem nam_named : Tryz.prog.globalNamed namN = some 3 := by kernel_rfl
theorem Nam.below {w w' : World} {B : Nat} (h : Nam w) (hb : Below B w w') (hB : w.heap.size ≤ B) : Nam w' := Go.Joins.var_stays nam_named h hb hB
theorem Nam.row {w : World} (h : Nam w) : ∃ t fr, w.heap[3]? = some (.cells namCs t fr) := by
  unfold Nam World.var? at h
  rw [nam_named] at h
  simp only [Option.bind_some] at h
  split at h
  · rename_i cs t fr hc
    injection h with h
    subst h
    exact ⟨t, fr, hc⟩
  · cases h
theorem beg_prefix (m L : List UInt8) : Lib.hasPrefix L m = beg m L := by
  unfold Lib.hasPrefix beg
  rw [Bool.eq_iff_iff, List.isPrefixOf_iff_prefix, beq_iff_eq, List.prefix_iff_eq_take]
  exact eq_comm
theorem run_index_in (w : World) (t e : TypeId) (n : Nat) (cs : Array Value) (i : Nat) (v : Value) (h : Tryz.prog.underlying t = some (.array n e)) (hc : (Go.sizeOf e).run Tryz.prog w = .ok 1 w) (hg : (isAgg e).run Tryz.prog w = .ok false w) (hi : i < n) (hv : cs[i]? = some v) :
    (Instr.index t (.agg cs) (.int .i64 (i : Int))).run Tryz.prog w = .ok v w := by
  have h1 : (0 : Int) ≤ (i : Int) ∧ (i : Int) < (n : Int) := by omega
  simp [Instr.index, run_underlying h, asIntOf, h1, go_sem, hv, hg, hc, hi]

theorem nam_size : namCs.size = 33 := by decide +kernel
theorem nam_at : ∀ k, k < 33 → namCs[k]? = some (.string ⟨(namesL.getD k []).toArray⟩) := by
  intro k hk
  unfold namCs
  have hl : namesL.length = 33 := rfl
  rw [List.getElem?_toArray, List.getElem?_map, List.getElem?_eq_getElem (by omega), List.getD_eq_getElem?_getD, List.getElem?_eq_getElem (by omega)]
  rfl
theorem nam_len : ∀ k, k < 33 → (namesL.getD k []).length ≤ 3 := by decide +kernel
theorem nameG_step (k : Nat) (hk : k < 33) (L : List UInt8) (acc : Nat × Nat) : nameG (namesL.drop k) k L acc = nameG (namesL.drop (k + 1)) (k + 1) L (if acc.2 < (namesL.getD k []).length ∧ beg (namesL.getD k []) L = true then (k, (namesL.getD k []).length) else acc) := by
  have hl : namesL.length = 33 := rfl
  rw [List.drop_eq_getElem_cons (by omega), nameG, List.getD_eq_getElem?_getD, List.getElem?_eq_getElem (by omega)]
  rfl
theorem del_eq (t : ByteArray) (w : World) : Calls Tryz.prog 30 #[.string t, .string ⟨#[68, 69, 76]⟩] w fun e w' => e = .returned (.bool (beg delL t.data.toList)) ∧ w = w' := by
  have := prefix_any t ⟨#[68, 69, 76]⟩ w
  rw [beg_prefix] at this
  exact this

set_option maxHeartbeats 1000000 in
set_option maxRecDepth 100000 in
theorem named_any (t : ByteArray) (hs : t.size ≤ 1125899906842624) (w : World) (hN : Nam w) :
    Calls Tryz.prog 158 #[.string t] w fun e w' => e = .returned (.tuple #[.int .i64 ((nameE t.data.toList).1 : Int), .int .i64 ((nameE t.data.toList).2 : Int)]) ∧ w = w' := by
  have c1 := fun W => del_eq t W
  obtain ⟨z, hz⟩ : ∃ z, nameE t.data.toList = z := ⟨_, rfl⟩
  rw [hz]
  unfold nameE at hz
  cases hb : beg delL t.data.toList with
  | true =>
    rw [hb] at c1
    rw [if_pos hb] at hz
    subst hz
    have C1 := Lib.hid c1
    clear c1 hb hN
    go_enter Tryz.func158, Tryz.ntmps158
    go_wp2_with fail
    refine (C1.out _).mono ?_
    rintro e w1 ⟨rfl, rfl⟩
    go_wp2_with fail
    go_ret2
    exact ⟨rfl, rfl⟩
  | false =>
    rw [hb] at c1
    rw [if_neg (by rw [hb]; decide)] at hz
    have HZ := Lib.hid hz
    have C1 := Lib.hid c1
    obtain ⟨ty, fr, hrow⟩ := hN.row
    obtain ⟨arr, harr⟩ : ∃ arr, namCs = arr := ⟨_, rfl⟩
    have hat := nam_at
    have hsz := nam_size
    rw [harr] at hrow hat hsz
    have hat2 := Lib.hid hat
    have hix : ∀ (k : Nat), k < 33 → ∀ W, (Instr.index 137 (.agg arr) (.int .i64 (k : Int))).run Tryz.prog W = .ok (.string ⟨(namesL.getD k []).toArray⟩) W := fun k hk W =>
      run_index_in W _ _ 33 arr k _ Tryz.underlying137 (Tryz.sizeOf9 W) (Tryz.isAgg9 W) hk (hat2.out k hk)
    have HROW := Lib.hid hrow
    have HSZ : Hid ((Tryz.prog.info? 137).map (·.size) = some arr.size) := by
      unfold Hid
      rw [hsz]
      kernel_rfl
    have HIX := Lib.hid hix
    clear c1 hb hN hz hrow hat hsz harr hat2 hix
    go_enter Tryz.func158, Tryz.ntmps158
    go_wp2_with fail
    refine (C1.out _).mono ?_
    rintro e w1 ⟨rfl, rfl⟩
    go_wp2_with (refine wpList_load_row rfl 137 _ rfl 3 rfl ty arr fr _ HROW.out Tryz.underlying137 rfl HSZ.out ?_)
    go_loop [2, 3, 9] (fun a b i => ∃ (x y k : Nat), a = .int .i64 (x : Int) ∧ b = .int .i64 (y : Int) ∧ i = .int .i64 (k : Int) ∧ k ≤ 33 ∧ nameG (namesL.drop k) k t.data.toList (x, y) = z) (fun _ _ i => 33 - (intOf i).toNat)
    case atStart => exact ⟨0, 0, 0, rfl, rfl, rfl, by omega, HZ.out⟩
    case round =>
      obtain ⟨x, y, k, rfl, rfl, rfl, hk0, hq⟩ := hrel
      have HQ := Lib.hid hq
      clear hq
      by_cases hk : k < 33
      · have hi := HIX.out k hk w
        have hst := nameG_step k hk t.data.toList (x, y)
        rw [HQ.out] at hst
        have c2 : ∀ W, Calls Tryz.prog 30 #[.string t, .string ⟨(namesL.getD k []).toArray⟩] W fun e w' => e = .returned (.bool (beg (namesL.getD k []) t.data.toList)) ∧ W = w' := fun W => by
          have := prefix_any t ⟨(namesL.getD k []).toArray⟩ W
          rw [beg_prefix] at this
          exact this
        have hln := nam_len k hk
        generalize namesL.getD k [] = m at *
        have hml : ((⟨m.toArray⟩ : ByteArray).size) = m.length := by rw [Lib.size_eq]
        generalize (⟨m.toArray⟩ : ByteArray) = mb at *
        have x1 : decide ((k : Int) < 33) = true := decide_eq_true (by omega)
        by_cases hy : y < m.length
        · have x2 : decide ((y : Int) < (mb.size : Int)) = true := decide_eq_true (by omega)
          have x3 : decide (y < mb.size) = true := decide_eq_true (by omega)
          cases hbg : beg m t.data.toList with
          | true =>
            simp only [hbg] at c2
            rw [if_pos ⟨hy, hbg⟩] at hst
            have HST := Lib.hid hst
            have C2 := Lib.hid c2
            have HML := Lib.hid hml
            clear hst c2 hbg hml hy
            go_wp2_with fail
            refine (C2.out _).mono ?_
            rintro e w1 ⟨rfl, rfl⟩
            go_wp2_with fail
            go_round
            case rel => exact ⟨k, m.length, k + 1, rfl, by rw [HML.out], by go_num, by omega, HST.out.symm⟩
            case measure => simp [intOf]; omega
          | false =>
            simp only [hbg] at c2
            rw [if_neg (fun q => by rw [hbg] at q; cases q.2)] at hst
            have HST := Lib.hid hst
            have C2 := Lib.hid c2
            clear hst c2 hbg hml hy
            go_wp2_with fail
            refine (C2.out _).mono ?_
            rintro e w1 ⟨rfl, rfl⟩
            go_wp2_with fail
            go_round
            case rel => exact ⟨x, y, k + 1, rfl, rfl, by go_num, by omega, HST.out.symm⟩
            case measure => simp [intOf]; omega
        · have x2 : decide ((y : Int) < (mb.size : Int)) = false := decide_eq_false (by omega)
          have x3 : decide (y < mb.size) = false := decide_eq_false (by omega)
          rw [if_neg (fun q => hy q.1)] at hst
          have HST := Lib.hid hst
          clear hst c2 hml hy
          go_wp2_with fail
          go_round
          case rel => exact ⟨x, y, k + 1, rfl, rfl, by go_num, by omega, HST.out.symm⟩
          case measure => simp [intOf]; omega
      · obtain rfl : k = 33 := by omega
        have hq := HQ.out
        rw [List.drop_eq_nil_of_le (by decide), nameG] at hq
        subst hq
        go_wp2_with fail
        go_ret2
        exact ⟨rfl, rfl⟩
end Go.Proofs.YtkehchajgdepaaaGreatDoor.Qt
/-
  The contract of package quote's escape, put together out of its ways. Conditions: the string has at most 2^50 bytes; the program's list of names stands.
-/
namespace Go.Proofs.YtkehchajgdepaaaGreatDoor.Qt
open Go.RowKit Gly
open Wrd (rn wd)
set_option linter.unusedSimpArgs false
set_option linter.unusedVariables false

/-- Where a byte stands among the letters. -/
def ltI (n : Nat) : Int := Lib.indexByte [97, 98, 116, 110, 118, 102, 114] ((n : Int).toNat.toUInt8)
theorem lt_yes : ∀ n : Nat, n < 256 → 0 ≤ ltI n → short n ≠ 0 ∧ (short n : Int) = 7 + ltI n ∧ ltI n ≤ 6 := by decide +kernel
theorem lt_no : ∀ n : Nat, n < 256 → ltI n < 0 → short n = if n = 92 ∨ n = 34 ∨ n = 39 then n else 0 := by decide +kernel
theorem let_any (n : Nat) (w : World) : Calls Tryz.prog 111 #[.string ⟨#[97, 98, 116, 110, 118, 102, 114]⟩, .int .u8 (n : Int)] w fun e w' => e = .returned (.int .i64 (ltI n)) ∧ w = w' := index_any _ _ w
theorem dig_is (n : Nat) (w : World) : Calls Tryz.prog 156 #[.int .i64 (n : Int)] w fun e w' => e = .returned (.bool (isDig n)) ∧ w = w' := by
  by_cases h1 : 48 ≤ n
  · by_cases h2 : n ≤ 57
    · have a1 : decide ((48 : Int) ≤ (n : Int)) = true := decide_eq_true (by omega)
      have a2 : decide ((n : Int) ≤ 57) = true := decide_eq_true (by omega)
      go_enter Tryz.func156, Tryz.ntmps156
      go_wp2
      go_ret
      exact ⟨by unfold isDig; rw [decide_eq_true h1, decide_eq_true h2]; rfl, rfl⟩
    · have a1 : decide ((48 : Int) ≤ (n : Int)) = true := decide_eq_true (by omega)
      have a2 : decide ((n : Int) ≤ 57) = false := decide_eq_false (by omega)
      go_enter Tryz.func156, Tryz.ntmps156
      go_wp2
      go_ret
      exact ⟨by unfold isDig; rw [decide_eq_true h1, decide_eq_false h2]; rfl, rfl⟩
  · have a1 : decide ((48 : Int) ≤ (n : Int)) = false := decide_eq_false (by omega)
    go_enter Tryz.func156, Tryz.ntmps156
    go_wp2
    go_ret
    exact ⟨by unfold isDig; rw [decide_eq_false h1]; rfl, rfl⟩

/-- escape, put together. -/
theorem escape_any (t : ByteArray) (hs : t.size ≤ 1125899906842624) (w : World) (hN : Nam w) :
    Calls Tryz.prog 153 #[.string t] w fun e w' => e = .returned (.tuple #[.int .i64 ((escE t.data.toList).1 : Int), .int .i64 ((escE t.data.toList).2 : Int)]) ∧ Below w.heap.size w w' := by
  by_cases h0 : t.size = 0
  · obtain rfl : t = ⟨#[]⟩ := bytes_ext (List.eq_nil_of_length_eq_zero (by rw [← Lib.size_eq]; exact h0))
    have HE : Hid (escE [] = (0, 0)) := by unfold Hid; decide +kernel
    clear hN
    go_enter Tryz.func153, Tryz.ntmps153
    go_wp2_with fail
    go_ret2
    exact ⟨by rw [HE.out]; rfl, Below.refl _ _⟩
  have hpos : 0 < t.size := by omega
  have hne : (t.toList == ([] : List UInt8)) = false := by
    rw [beq_eq_false_iff_ne, Lib.toList_data]
    intro e
    have := congrArg List.length e
    rw [← Lib.size_eq] at this
    exact h0 this
  obtain ⟨n, hn⟩ : ∃ n, t[0].toNat = n := ⟨_, rfl⟩
  have hh : hd t.data.toList = n := by rw [← hn]; exact hd_rest t 0 hpos
  have hlt : n < 256 := by rw [← hn]; exact t[0].toNat_lt
  obtain ⟨z, hz⟩ : ∃ z, escE t.data.toList = z := ⟨_, rfl⟩
  rw [hz]
  have hz2 : z = if short n ≠ 0 then (short n, 1)
    else if n = 94 then (if 64 ≤ hd (rest t 1) ∧ hd (rest t 1) ≤ 95 then (hd (rest t 1) - 64, 2) else (0, 0))
    else if n = 111 then lettE 8 (rest t 1)
    else if n = 120 then lettE 16 (rest t 1)
    else if 48 ≤ n ∧ n ≤ 57 then digE 10 t.data.toList
    else nameE t.data.toList := by rw [← hz, ← hh]; rfl
  have c1 := fun W => let_any n W
  have c2 := fun W => dig_is n W
  have c3 := fun W => control_any t hpos hs W
  have c4 := fun W => lettered_any t 8 (by omega) (by omega) hpos hs W
  have c5 := fun W => lettered_any t 16 (by omega) (by omega) hpos hs W
  have c6 := fun W => digits_any t 10 (by omega) (by omega) hs W
  have c7 : Calls Tryz.prog 158 #[.string t] w _ := named_any t hs w hN
  have hl1 := lt_yes n hlt
  have hl2 := lt_no n hlt
  clear hN h0 hz hh
  generalize lettE 8 (rest t 1) = z4 at *
  generalize lettE 16 (rest t 1) = z5 at *
  generalize digE 10 t.data.toList = z6 at *
  generalize nameE t.data.toList = z7 at *
  generalize ((if 64 ≤ hd (rest t 1) ∧ hd (rest t 1) ≤ 95 then (hd (rest t 1) - 64, 2) else (0, 0)) : Nat × Nat) = z3 at *
  generalize ltI n = l at *
  have C1 := Lib.hid c1
  have C3 := Lib.hid c3
  have C4 := Lib.hid c4
  have C5 := Lib.hid c5
  have C6 := Lib.hid c6
  have C7 := Lib.hid c7
  clear c1 c3 c4 c5 c6 c7
  by_cases hl : 0 ≤ l
  · obtain ⟨g1, g2, g3⟩ := hl1 hl
    rw [if_pos g1] at hz2
    have HZ : Hid (z = (short n, 1)) := hz2
    have HS := Lib.hid g2
    clear hz2 c2 hl1 hl2 g1 g2 hlt
    go_enter Tryz.func153, Tryz.ntmps153
    go_wp2_with fail
    refine (C1.out _).mono ?_
    rintro e w1 ⟨rfl, rfl⟩
    go_wp2_with fail
    refine (C1.out _).mono ?_
    rintro e w1 ⟨rfl, rfl⟩
    go_wp2_with fail
    go_ret2
    refine ⟨?_, Below.refl _ _⟩
    rw [HZ.out]
    dsimp only
    rw [HS.out]
    rfl
  have hl3 := hl2 (by omega)
  have b0 : decide ((0 : Int) ≤ l) = false := decide_eq_false hl
  clear hl1 hl2 hl
  by_cases q1 : n = 92 ∨ n = 34 ∨ n = 39
  · rw [if_pos q1] at hl3
    rw [hl3, if_pos (by omega)] at hz2
    have HZ : Hid (z = (n, 1)) := hz2
    clear hz2 hl3 c2 C3 C4 C5 C6 C7
    rcases q1 with rfl | rfl | rfl
    · go_enter Tryz.func153, Tryz.ntmps153
      go_wp2_with fail
      refine (C1.out _).mono ?_
      rintro e w1 ⟨rfl, rfl⟩
      go_wp2_with fail
      go_ret2
      exact ⟨by rw [HZ.out] <;> rfl, Below.refl _ _⟩
    · go_enter Tryz.func153, Tryz.ntmps153
      go_wp2_with fail
      refine (C1.out _).mono ?_
      rintro e w1 ⟨rfl, rfl⟩
      go_wp2_with fail
      go_ret2
      exact ⟨by rw [HZ.out] <;> rfl, Below.refl _ _⟩
    · go_enter Tryz.func153, Tryz.ntmps153
      go_wp2_with fail
      refine (C1.out _).mono ?_
      rintro e w1 ⟨rfl, rfl⟩
      go_wp2_with fail
      go_ret2
      exact ⟨by rw [HZ.out] <;> rfl, Below.refl _ _⟩
  rw [if_neg q1] at hl3
  rw [hl3, if_neg (by omega)] at hz2
  have b1 : (((n : Nat) : Int) == 92) = false := by rw [beq_eq_false_iff_ne]; omega
  have b2 : (((n : Nat) : Int) == 34) = false := by rw [beq_eq_false_iff_ne]; omega
  have b3 : (((n : Nat) : Int) == 39) = false := by rw [beq_eq_false_iff_ne]; omega
  clear hl3 q1
  by_cases q : n = 94
  · rw [if_pos q] at hz2
    have HZ := Lib.hid hz2
    subst q
    clear hz2 c2
    go_enter Tryz.func153, Tryz.ntmps153
    go_wp2_with fail
    refine (C1.out _).mono ?_
    rintro e w1 ⟨rfl, rfl⟩
    go_wp2_with fail
    refine (C3.out _).mono ?_
    rintro e w2 ⟨rfl, rfl⟩
    go_wp2_with fail
    go_ret2
    exact ⟨by rw [HZ.out] <;> rfl, Below.refl _ _⟩
  rw [if_neg q] at hz2
  have b94 : (((n : Nat) : Int) == 94) = false := by rw [beq_eq_false_iff_ne]; omega
  clear q
  by_cases q : n = 111
  · rw [if_pos q] at hz2
    have HZ := Lib.hid hz2
    subst q
    clear hz2 c2
    go_enter Tryz.func153, Tryz.ntmps153
    go_wp2_with fail
    refine (C1.out _).mono ?_
    rintro e w1 ⟨rfl, rfl⟩
    go_wp2_with fail
    refine (C4.out _).mono ?_
    rintro e w2 ⟨rfl, hb2⟩
    have HB2 := Lib.hid hb2
    clear hb2
    go_wp2_with fail
    go_ret2
    exact ⟨by rw [HZ.out] <;> rfl, HB2.out⟩
  rw [if_neg q] at hz2
  have b111 : (((n : Nat) : Int) == 111) = false := by rw [beq_eq_false_iff_ne]; omega
  clear q
  by_cases q : n = 120
  · rw [if_pos q] at hz2
    have HZ := Lib.hid hz2
    subst q
    clear hz2 c2
    go_enter Tryz.func153, Tryz.ntmps153
    go_wp2_with fail
    refine (C1.out _).mono ?_
    rintro e w1 ⟨rfl, rfl⟩
    go_wp2_with fail
    refine (C5.out _).mono ?_
    rintro e w2 ⟨rfl, hb2⟩
    have HB2 := Lib.hid hb2
    clear hb2
    go_wp2_with fail
    go_ret2
    exact ⟨by rw [HZ.out] <;> rfl, HB2.out⟩
  rw [if_neg q] at hz2
  have b120 : (((n : Nat) : Int) == 120) = false := by rw [beq_eq_false_iff_ne]; omega
  clear q
  by_cases q : 48 ≤ n ∧ n ≤ 57
  · rw [if_pos q] at hz2
    have HZ := Lib.hid hz2
    have C2 : Hid (∀ W, Calls Tryz.prog 156 #[.int .i64 (n : Int)] W fun e w' => e = .returned (.bool true) ∧ W = w') := fun W => by
      have := c2 W
      rw [show isDig n = true by unfold isDig; rw [decide_eq_true q.1, decide_eq_true q.2]; rfl] at this
      exact this
    clear hz2 c2 q
    go_enter Tryz.func153, Tryz.ntmps153
    go_wp2_with fail
    refine (C1.out _).mono ?_
    rintro e w1 ⟨rfl, rfl⟩
    go_wp2_with fail
    refine (C2.out _).mono ?_
    rintro e w1 ⟨rfl, rfl⟩
    go_wp2_with fail
    refine (C6.out _).mono ?_
    rintro e w2 ⟨rfl, hb2⟩
    have HB2 := Lib.hid hb2
    clear hb2
    go_wp2_with fail
    go_ret2
    exact ⟨by rw [HZ.out] <;> rfl, HB2.out⟩
  · rw [if_neg q] at hz2
    have HZ := Lib.hid hz2
    have C2 : Hid (∀ W, Calls Tryz.prog 156 #[.int .i64 (n : Int)] W fun e w' => e = .returned (.bool false) ∧ W = w') := fun W => by
      have := c2 W
      rw [show isDig n = false by unfold isDig; rw [Bool.and_eq_false_iff, decide_eq_false_iff_not, decide_eq_false_iff_not]; omega] at this
      exact this
    clear hz2 c2 q
    go_enter Tryz.func153, Tryz.ntmps153
    go_wp2_with fail
    refine (C1.out _).mono ?_
    rintro e w1 ⟨rfl, rfl⟩
    go_wp2_with fail
    refine (C2.out _).mono ?_
    rintro e w1 ⟨rfl, rfl⟩
    go_wp2_with fail
    refine C7.out.mono ?_
    rintro e w2 ⟨rfl, rfl⟩
    go_wp2_with fail
    go_ret2
    exact ⟨by rw [HZ.out] <;> rfl, Below.refl _ _⟩
end Go.Proofs.YtkehchajgdepaaaGreatDoor.Qt
