/-
  The contract of note.nestedEnd. Conditions: the string has at most 2^50 bytes; a nested comment opens at the byte.
-/
import Derived.Test.YtkehchajgdepaaaGreatDoorZNotA
import Derived.Test.YtkehchajgdepaaaGreatDoorZNotIdx
import Derived.WalkMore
import Derived.WalkKit
namespace Go.Proofs.YtkehchajgdepaaaGreatDoor.Not
open Go.RowKit Gly
set_option linter.unusedSimpArgs false
set_option linter.unusedVariables false

/-- Where the comment ends that is d deep at byte p; 0: it does not. -/
def nestR (s : ByteArray) (d p : Nat) : Nat := if endA d 0 (rest s p) = 0 then 0 else p + endA d 0 (rest s p)
theorem rest_two (s : ByteArray) (p : Nat) (h : p + 1 < s.size) : rest s p = s[p] :: s[p + 1] :: rest s (p + 2) := by
  rw [rest_cons s p (by omega), rest_cons s (p + 1) h]
theorem nestR_open (s : ByteArray) (d p : Nat) (hd : 0 < d) (h : rest s p = 123 :: 45 :: rest s (p + 2)) : nestR s d p = nestR s (d + 1) (p + 2) := by
  unfold nestR
  rw [h, endA_open d hd]
  by_cases e : endA (d + 1) 0 (rest s (p + 2)) = 0
  · rw [if_pos e, if_pos rfl, if_pos e]
  · rw [if_neg e, if_neg (by omega), if_neg e]
    omega
theorem nestR_close (s : ByteArray) (d p : Nat) (hd : 0 < d) (h : rest s p = 45 :: 125 :: rest s (p + 2)) : nestR s d p = if d = 1 then p + 2 else nestR s (d - 1) (p + 2) := by
  unfold nestR
  rw [h, endA_close d hd]
  by_cases h1 : d = 1
  · rw [if_pos h1, if_pos h1, if_neg (by decide)]
  · rw [if_neg h1, if_neg h1]
    by_cases e : endA (d - 1) 0 (rest s (p + 2)) = 0
    · rw [if_pos e, if_pos rfl, if_pos e]
    · rw [if_neg e, if_neg (by omega), if_neg e]
      omega
theorem nestR_other (s : ByteArray) (d p : Nat) (hd : 0 < d) (hp : p + 1 < s.size) (h : pair s[p] s[p + 1] = false) : nestR s d p = nestR s d (p + 1) := by
  unfold nestR
  rw [rest_two s p hp, endA_other d hd _ _ _ h, ← rest_cons s (p + 1) hp]
  by_cases e : endA d 0 (rest s (p + 1)) = 0
  · rw [if_pos e, if_pos rfl, if_pos e]
  · rw [if_neg e, if_neg (by omega), if_neg e]
    omega
theorem nestR_end (s : ByteArray) (d p : Nat) (hd : 0 < d) (hp : s.size ≤ p + 1) : nestR s d p = 0 := by
  unfold nestR
  rw [if_pos]
  by_cases h : p < s.size
  · rw [rest_cons s p h, rest_nil s (p + 1) hp, endA_one d hd]
  · rw [rest_nil s p (by omega)]
    rfl
theorem nestR_le (s : ByteArray) (d p : Nat) (hp : p ≤ s.size) : nestR s d p ≤ s.size := by
  have h1 := endA_le (rest s p) d 0
  rw [rest_len] at h1
  unfold nestR
  split <;> omega
theorem two_list (s : ByteArray) (p : Nat) (h : p + 1 < s.size) : (s.extract p (p + 2)).toList = [s[p], s[p + 1]] := by
  rw [Lib.toList_data, piece_rest, rest_two s p h]
  rfl

set_option maxHeartbeats 2000000 in
theorem nested_any (s : ByteArray) (n : Nat) (hs : s.size ≤ 1125899906842624) (hn : rest s n = 123 :: 45 :: rest s (n + 2)) (w : World) :
    Calls Tryz.prog 49 #[.string s, .int .i64 (n : Int)] w fun e w' => e = .returned (.int .i64 ((nestR s 1 (n + 2) : Nat) : Int)) ∧ w = w' := by
  have hl : n + 2 ≤ s.size := by
    have := congrArg List.length hn
    rw [rest_len] at this
    simp only [List.length_cons] at this
    omega
  obtain ⟨E, hE⟩ : ∃ E, nestR s 1 (n + 2) = E := ⟨_, rfl⟩
  rw [hE]
  have HN := Lib.hid hn
  have HE := Lib.hid hE
  clear hn hE
  go_enter Tryz.func49, Tryz.ntmps49
  go_wp2
  go_step3
  go_wp2
  go_step3
  go_wp2
  go_loop [1, 5, 6] (fun av dv ev => ∃ (p d : Nat), av = .int .i64 (p : Int) ∧ dv = .int .i64 (d : Int) ∧ ev = .int .i64 0 ∧ p ≤ s.size ∧ d ≤ p ∧ ((d = 0 ∧ p = n) ∨ (0 < d ∧ nestR s d p = E))) (fun av _ _ => s.size - (intOf av).toNat)
  case atStart => exact ⟨n, 0, rfl, rfl, rfl, by omega, by omega, .inl ⟨rfl, rfl⟩⟩
  case round =>
    obtain ⟨p, d, rfl, rfl, rfl, hp0, hdp, hq⟩ := hrel
    have HQ := Lib.hid hq
    clear hq
    by_cases hp : p + 1 < s.size
    · have hx := two_list s p hp
      obtain ⟨x, hxe⟩ : ∃ x, s.extract p (p + 2) = x := ⟨_, rfl⟩
      rw [hxe] at hx
      have h2 := rest_two s p hp
      have t0 : (p : Int) + 2 ≤ (s.size : Int) := by omega
      have t1 : (0 : Int) ≤ (p : Int) := by omega
      have t2 : (p : Int) ≤ (p : Int) + 2 := by omega
      cases c1 : x.toList == [123, 45] with
      | true =>
        have hop : Hid (rest s p = 123 :: 45 :: rest s (p + 2)) := by
          have := beq_iff_eq.1 c1
          rw [hx] at this
          unfold Hid
          rw [h2]
          simp only [List.cons.injEq, and_true] at this ⊢
          exact this
        clear h2 hx
        go_wp2
        go_round
        case rel =>
          refine ⟨p + 2, d + 1, by go_num, by go_num, rfl, by omega, by omega, .inr ⟨by omega, ?_⟩⟩
          rcases HQ.out with ⟨rfl, rfl⟩ | ⟨h1, h2⟩
          · exact HE.out
          · rw [← nestR_open s d p h1 hop.out]
            exact h2
        case measure => simp [intOf]; omega
      | false =>
        have hd : 0 < d := by
          rcases HQ.out with ⟨rfl, rfl⟩ | ⟨h1, h2⟩
          · exfalso
            rw [hx] at c1
            have := HN.out
            rw [h2] at this
            simp only [List.cons.injEq, and_true] at this
            rw [this.1, this.2] at c1
            exact absurd c1 (by decide)
          · exact h1
        have HR : Hid (nestR s d p = E) := by
          rcases HQ.out with ⟨rfl, rfl⟩ | ⟨h1, h2⟩
          · omega
          · exact h2
        cases c2 : x.toList == [45, 125] with
        | true =>
          have hcl : Hid (rest s p = 45 :: 125 :: rest s (p + 2)) := by
            have := beq_iff_eq.1 c2
            rw [hx] at this
            unfold Hid
            rw [h2]
            simp only [List.cons.injEq, and_true] at this ⊢
            exact this
          clear h2 hx
          by_cases h1 : d = 1
          · subst h1
            have HR2 : Hid (p + 2 = E) := by
              have := HR.out
              rw [nestR_close s 1 p (by omega) hcl.out, if_pos rfl] at this
              exact this
            go_wp2
            go_ret
            exact ⟨by rw [← HR2.out]; rfl, rfl⟩
          · have hz : (((d : Int) - 1) == 0) = false := by rw [beq_eq_false_iff_ne]; omega
            go_wp2
            go_round
            case rel =>
              refine ⟨p + 2, d - 1, by go_num, by go_num, rfl, by omega, by omega, .inr ⟨by omega, ?_⟩⟩
              have := HR.out
              rw [nestR_close s d p hd hcl.out, if_neg h1] at this
              exact this
            case measure => simp [intOf]; omega
        | false =>
          have hno : Hid (pair s[p] s[p + 1] = false) := by
            rw [hx] at c1 c2
            unfold Hid pair
            rw [Bool.or_eq_false_iff]
            simp only [List.cons_beq_cons, Bool.and_true, List.nil_beq_eq, List.isEmpty_nil] at c1 c2
            exact ⟨by simpa using c1, by simpa using c2⟩
          clear h2 hx
          go_wp2
          go_round
          case rel =>
            refine ⟨p + 1, d, by go_num, by go_num, rfl, by omega, by omega, .inr ⟨hd, ?_⟩⟩
            rw [← nestR_other s d p hd hp hno.out]
            exact HR.out
          case measure => simp [intOf]; omega
    · have hd : 0 < d := by
        rcases HQ.out with ⟨rfl, rfl⟩ | ⟨h1, h2⟩
        · omega
        · exact h1
      have HR : Hid (E = 0) := by
        rcases HQ.out with ⟨rfl, rfl⟩ | ⟨h1, h2⟩
        · omega
        · rw [← h2]
          exact nestR_end s d p h1 (by omega)
      have t0 : (s.size : Int) < (p : Int) + 2 := by omega
      go_wp2
      go_ret
      exact ⟨by rw [HR.out]; rfl, rfl⟩
end Go.Proofs.YtkehchajgdepaaaGreatDoor.Not
/-
  The contracts of note's isDashes, rowEnd, Scan, isPragma and Kind. Condition: the string has at most 2^50 bytes.
-/
namespace Go.Proofs.YtkehchajgdepaaaGreatDoor.Not
open Go.RowKit Gly
open Wrd (rn wd run run_le run_stop run_step wd_pos wd_le)
set_option linter.unusedSimpArgs false
set_option linter.unusedVariables false

theorem toList_mk (l : List UInt8) : (⟨l.toArray⟩ : ByteArray).toList = l := by rw [Lib.toList_data]
theorem below_trans {w w1 w2 : World} (h : Below w.heap.size w w1) (k : Below w1.heap.size w1 w2) : Below w.heap.size w w2 := h.trans (k.mono h.size)
theorem dsh_trim (L : List UInt8) : dsh L = (decide (2 ≤ L.length) && (Lib.trimB L 45).isEmpty) := by
  unfold dsh
  congr 1
  rw [Bool.eq_iff_iff, List.all_eq_true, List.isEmpty_iff, trimB_dash]
  exact ⟨fun h b hb => beq_iff_eq.1 (h b hb), fun h b hb => beq_iff_eq.2 (h b hb)⟩
theorem dash_any (s : ByteArray) (hs : s.size ≤ 1125899906842624) (w : World) :
    Calls Tryz.prog 77 #[.string s] w fun e w' => e = .returned (.bool (dsh s.data.toList)) ∧ Below w.heap.size w w' := by
  rw [dsh_trim, ← Lib.size_eq]
  have c := fun W => trimDash_any s hs W
  generalize Lib.trimB s.data.toList 45 = t at *
  have hx := toList_mk t
  obtain ⟨x, hxe⟩ : ∃ x, (⟨t.toArray⟩ : ByteArray) = x := ⟨_, rfl⟩
  rw [hxe] at hx
  rw [hxe] at c
  rw [← hx]
  have C := Lib.hid c
  clear c hx hxe
  by_cases h : s.size < 2
  · have t0 : decide ((2 : Int) ≤ (s.size : Int)) = false := decide_eq_false (by omega)
    have t1 : decide (2 ≤ s.size) = false := decide_eq_false (by omega)
    rw [t1]
    go_enter Tryz.func77, Tryz.ntmps77
    go_wp2_with fail
    go_ret
    exact ⟨rfl, Below.refl _ _⟩
  · have t0 : decide ((2 : Int) ≤ (s.size : Int)) = true := decide_eq_true (by omega)
    have t1 : decide (2 ≤ s.size) = true := decide_eq_true (by omega)
    rw [t1, Bool.true_and]
    go_enter Tryz.func77, Tryz.ntmps77
    go_wp2_with fail
    refine (C.out _).mono ?_
    rintro e w1 ⟨rfl, hb⟩
    have HB := Lib.hid hb
    clear hb
    go_wp2_with fail
    go_ret
    exact ⟨rfl, HB.out⟩

/-- Where the line comment ends that begins at byte n; 0: none begins. -/
def rowR (s : ByteArray) (n : Nat) : Nat := if dsh ((rest s n).take (run symP (rest s n))) = true then n + run symP (rest s n) + nlEnd (rest s (n + run symP (rest s n))) else 0
theorem tail_size (s : ByteArray) (n : Nat) (h : n ≤ s.size) : (s.extract n s.size).size = s.size - n := by
  rw [Lib.size_eq, tail_rest, rest_len]
theorem row_any (s : ByteArray) (n : Nat) (hs : s.size ≤ 1125899906842624) (hn : n ≤ s.size) (w : World) :
    Calls Tryz.prog 48 #[.string s, .int .i64 (n : Int)] w fun e w' => e = .returned (.int .i64 ((rowR s n : Nat) : Int)) ∧ Below w.heap.size w w' := by
  have c1 := fun W => symbols_any s n hs hn W
  unfold rowR
  have hr : run symP (rest s n) ≤ s.size - n := by rw [← rest_len]; exact run_le symP _ _ (Nat.le_refl _)
  generalize run symP (rest s n) = r at *
  have hp : (s.extract n (n + r)).data.toList = (rest s n).take r := piece_rest s n r
  have hps : (s.extract n (n + r)).size ≤ 1125899906842624 := by rw [Lib.size_eq, hp, List.length_take]; omega
  have c2 := fun W => dash_any (s.extract n (n + r)) hps W
  rw [hp] at c2
  have hts := tail_size s (n + r) (by omega)
  have c3 := fun W => idx_any (s.extract (n + r) s.size) (by omega) W
  rw [tail_rest, hts] at c3
  have hl := nlEnd_le (rest s (n + r))
  rw [rest_len] at hl
  generalize nlEnd (rest s (n + r)) = k at *
  have t1 : (0 : Int) ≤ (n : Int) := by omega
  have t2 : (n : Int) ≤ ((n + r : Nat) : Int) := by omega
  have t3 : ((n + r : Nat) : Int) ≤ (s.size : Int) := by omega
  have t4 : (n + r : Nat) ≤ s.size := by omega
  clear hp hps hts
  generalize hE : n + r = E at *
  have C1 := Lib.hid c1
  have C2 := Lib.hid c2
  have C3 := Lib.hid c3
  clear c1 c2 c3
  cases hd : dsh ((rest s n).take r) with
  | false =>
    rw [hd] at C2
    rw [if_neg (by decide)]
    go_enter Tryz.func48, Tryz.ntmps48
    go_wp2_with fail
    refine (C1.out _).mono ?_
    rintro e w1 ⟨rfl, hb1⟩
    have HB1 := Lib.hid hb1
    clear hb1
    go_wp2_with fail
    refine (C2.out _).mono ?_
    rintro e w2 ⟨rfl, hb2⟩
    have HB2 := Lib.hid (below_trans HB1.out hb2)
    clear hb2
    go_wp2_with fail
    go_ret
    exact ⟨rfl, HB2.out⟩
  | true =>
    rw [hd] at C2
    rw [if_pos rfl]
    by_cases hk : k = s.size - E
    · rw [if_pos hk] at C3
      have HE : Hid (((E + k : Nat) : Int) = (s.size : Int)) := by unfold Hid; omega
      go_enter Tryz.func48, Tryz.ntmps48
      go_wp2_with fail
      refine (C1.out _).mono ?_
      rintro e w1 ⟨rfl, hb1⟩
      have HB1 := Lib.hid hb1
      clear hb1
      go_wp2_with fail
      refine (C2.out _).mono ?_
      rintro e w2 ⟨rfl, hb2⟩
      have HB2 := Lib.hid (below_trans HB1.out hb2)
      clear hb2
      go_wp2_with fail
      refine (C3.out _).mono ?_
      rintro e w3 ⟨rfl, hb3⟩
      have HB3 := Lib.hid (below_trans HB2.out hb3)
      clear hb3
      go_wp2_with fail
      go_ret
      exact ⟨by rw [HE.out]; rfl, HB3.out⟩
    · rw [if_neg hk] at C3
      have t5 : decide ((k : Int) < 0) = false := decide_eq_false (by omega)
      go_enter Tryz.func48, Tryz.ntmps48
      go_wp2_with fail
      refine (C1.out _).mono ?_
      rintro e w1 ⟨rfl, hb1⟩
      have HB1 := Lib.hid hb1
      clear hb1
      go_wp2_with fail
      refine (C2.out _).mono ?_
      rintro e w2 ⟨rfl, hb2⟩
      have HB2 := Lib.hid (below_trans HB1.out hb2)
      clear hb2
      go_wp2_with fail
      refine (C3.out _).mono ?_
      rintro e w3 ⟨rfl, hb3⟩
      have HB3 := Lib.hid (below_trans HB2.out hb3)
      clear hb3
      go_wp2_with fail
      go_ret
      exact ⟨by go_num, HB3.out⟩

/-- Where the comment ends that begins at a byte, and the error. -/
def scanI (s : ByteArray) (i : Int) : Int × Int :=
  if i < 0 ∨ (s.size : Int) ≤ i then (0, 0) else (if (scanN (rest s i.toNat)).1 = 0 then 0 else i + (((scanN (rest s i.toNat)).1 : Nat) : Int), (((scanN (rest s i.toNat)).2 : Nat) : Int))
theorem scanI_out (s : ByteArray) (i : Int) (h : i < 0 ∨ (s.size : Int) ≤ i) : scanI s i = (0, 0) := by unfold scanI; rw [if_pos h]
theorem scanI_in (s : ByteArray) (n : Nat) (h : n < s.size) (e x : Nat) (hq : scanN (rest s n) = (e, x)) : scanI s (n : Int) = (if e = 0 then 0 else (((n + e : Nat)) : Int), (x : Int)) := by
  unfold scanI
  rw [if_neg (by omega), Int.toNat_natCast, hq]
  rfl
theorem scanI_row (s : ByteArray) (n : Nat) (h : n < s.size) (ho : opn (rest s n) = false) : scanI s (n : Int) = (((rowR s n : Nat) : Int), 0) := by
  unfold rowR
  by_cases hd : dsh ((rest s n).take (run symP (rest s n))) = true
  · have h2 := (dsh_len hd)
    rw [List.length_take] at h2
    have hq : scanN (rest s n) = (run symP (rest s n) + nlEnd (rest s (n + run symP (rest s n))), 0) := by
      unfold scanN
      rw [if_neg (by rw [ho]; decide), if_pos hd, rest_drop]
    rw [scanI_in s n h _ _ hq, if_pos hd, if_neg (by omega), Nat.add_assoc]
    rfl
  · have hq : scanN (rest s n) = (0, 0) := by
      unfold scanN
      rw [if_neg (by rw [ho]; decide), if_neg hd]
    rw [scanI_in s n h _ _ hq, if_neg hd, if_pos rfl]
    rfl
theorem scanI_nest (s : ByteArray) (n : Nat) (h : n < s.size) (ho : opn (rest s n) = true) : rest s n = 123 :: 45 :: rest s (n + 2) ∧ scanI s (n : Int) = (((nestR s 1 (n + 2) : Nat) : Int), if nestR s 1 (n + 2) = 0 then 60 else 0) := by
  obtain ⟨r, hr⟩ := opn_split _ ho
  have hd : rest s (n + 2) = r := by rw [← rest_drop, hr]; rfl
  refine ⟨by rw [hd]; exact hr, ?_⟩
  unfold nestR
  by_cases he : endA 1 0 (rest s (n + 2)) = 0
  · have hq : scanN (rest s n) = (0, 60) := by
      unfold scanN
      rw [if_pos ho, rest_drop, if_pos he]
    rw [scanI_in s n h _ _ hq, if_pos he, if_pos rfl, if_pos rfl]
    rfl
  · have hq : scanN (rest s n) = (endA 1 0 (rest s (n + 2)) + 2, 0) := by
      unfold scanN
      rw [if_pos ho, rest_drop, if_neg he]
    rw [scanI_in s n h _ _ hq, if_neg he, if_neg (by omega), if_neg (by omega), show n + (endA 1 0 (rest s (n + 2)) + 2) = n + 2 + endA 1 0 (rest s (n + 2)) by omega]
    rfl
theorem Scan_any (s : ByteArray) (i : Int) (hs : s.size ≤ 1125899906842624) (w : World) :
    Calls Tryz.prog 29 #[.string s, .int .i64 i] w fun e w' => e = .returned (.tuple #[.int .i64 (scanI s i).1, .int .i64 (scanI s i).2]) ∧ Below w.heap.size w w' := by
  by_cases h : i < 0 ∨ (s.size : Int) ≤ i
  · rw [scanI_out s i h]
    by_cases h1 : i < 0
    · go_enter Tryz.func29, Tryz.ntmps29
      go_wp2_with fail
      go_ret2
      exact ⟨rfl, Below.refl _ _⟩
    · have h2 : (s.size : Int) ≤ i := by omega
      clear h
      go_enter Tryz.func29, Tryz.ntmps29
      go_wp2_with fail
      go_ret2
      exact ⟨rfl, Below.refl _ _⟩
  · obtain ⟨n, rfl⟩ := Int.eq_ofNat_of_zero_le (a := i) (by omega)
    have hn : n < s.size := by omega
    have c1 := fun W => opn_any (s.extract n s.size) W
    rw [tail_rest] at c1
    have t1 : decide ((n : Int) < 0) = false := decide_eq_false (by omega)
    have t2 : decide ((s.size : Int) ≤ (n : Int)) = false := decide_eq_false (by omega)
    have t3 : (n : Int) ≤ (s.size : Int) := by omega
    have t4 : (0 : Int) ≤ (n : Int) := by omega
    cases ho : opn (rest s n) with
    | false =>
      rw [scanI_row s n hn ho]
      rw [ho] at c1
      have c2 := fun W => row_any s n hs (by omega) W
      dsimp only
      generalize rowR s n = r at *
      have C1 := Lib.hid c1
      have C2 := Lib.hid c2
      clear c1 c2 ho h
      go_enter Tryz.func29, Tryz.ntmps29
      go_wp2_with fail
      refine (C1.out _).mono ?_
      rintro e w1 ⟨rfl, rfl⟩
      go_wp2_with fail
      refine (C2.out _).mono ?_
      rintro e w2 ⟨rfl, hb⟩
      have HB := Lib.hid hb
      clear hb
      go_wp2_with fail
      go_ret2
      exact ⟨rfl, HB.out⟩
    | true =>
      obtain ⟨h1, h2⟩ := scanI_nest s n hn ho
      rw [h2]
      rw [ho] at c1
      have c2 := fun W => nested_any s n hs h1 W
      dsimp only
      generalize nestR s 1 (n + 2) = r at *
      have C1 := Lib.hid c1
      have C2 := Lib.hid c2
      clear c1 c2 ho h h1 h2
      by_cases hr : r = 0
      · subst hr
        rw [if_pos rfl]
        go_enter Tryz.func29, Tryz.ntmps29
        go_wp2_with fail
        refine (C1.out _).mono ?_
        rintro e w1 ⟨rfl, rfl⟩
        go_wp2_with fail
        refine (C2.out _).mono ?_
        rintro e w2 ⟨rfl, rfl⟩
        go_wp2_with fail
        go_ret2
        exact ⟨rfl, Below.refl _ _⟩
      · rw [if_neg hr]
        have t5 : ((r : Int) == 0) = false := by rw [beq_eq_false_iff_ne]; omega
        go_enter Tryz.func29, Tryz.ntmps29
        go_wp2_with fail
        refine (C1.out _).mono ?_
        rintro e w1 ⟨rfl, rfl⟩
        go_wp2_with fail
        refine (C2.out _).mono ?_
        rintro e w2 ⟨rfl, rfl⟩
        go_wp2_with fail
        go_ret2
        exact ⟨rfl, Below.refl _ _⟩
theorem Scan_le (s : ByteArray) (i : Int) : (scanI s i).1 ≤ (s.size : Int) := by
  unfold scanI
  split
  · dsimp only; omega
  · rename_i h
    have h1 := scanN_le (rest s i.toNat)
    rw [rest_len] at h1
    dsimp only
    split <;> omega
end Go.Proofs.YtkehchajgdepaaaGreatDoor.Not
/-
  The contracts of note's isPragma and Kind. Condition: the string has at most 2^50 bytes.
-/
namespace Go.Proofs.YtkehchajgdepaaaGreatDoor.Not
open Go.RowKit Gly
set_option linter.unusedSimpArgs false
set_option linter.unusedVariables false

theorem u8_beq (b c : UInt8) : (b == c) = (((b.toNat : Nat) : Int) == ((c.toNat : Nat) : Int)) := by
  rw [Bool.eq_iff_iff, beq_iff_eq, beq_iff_eq, Int.natCast_inj, UInt8.toNat_inj]
theorem getD_at (s : ByteArray) (n : Nat) (h : n < s.size) : s.data.toList.getD n 0 = s[n] := by
  have hl := Lib.size_eq s
  rw [List.getD_eq_getElem?_getD, List.getElem?_eq_getElem (by omega)]
  rfl
theorem prag_short (s : ByteArray) (h : s.size < 6) : prag s.data.toList = false := by
  unfold prag
  rw [← Lib.size_eq, decide_eq_false (by omega)]
  rfl
theorem prag_long (s : ByteArray) (h : 6 ≤ s.size) : prag s.data.toList = ((((s[2].toNat : Nat) : Int) == 35) && (((s[s.size - 3].toNat : Nat) : Int) == 35)) := by
  unfold prag
  rw [← Lib.size_eq, decide_eq_true h, Bool.true_and, getD_at s 2 (by omega), getD_at s _ (by omega), u8_beq, u8_beq]
  rfl
theorem pragma_any (s : ByteArray) (hs : s.size ≤ 1125899906842624) (w : World) :
    Calls Tryz.prog 31 #[.string s] w fun e w' => e = .returned (.bool (prag s.data.toList)) ∧ w = w' := by
  by_cases h : s.size < 6
  · rw [prag_short s h]
    have t0 : decide ((6 : Int) ≤ (s.size : Int)) = false := decide_eq_false (by omega)
    go_enter Tryz.func31, Tryz.ntmps31
    go_wp2_with fail
    go_ret
    exact ⟨rfl, rfl⟩
  · rw [prag_long s (by omega)]
    have t0 : decide ((6 : Int) ≤ (s.size : Int)) = true := decide_eq_true (by omega)
    have t1 : (s.size : Int) - 2 - 1 < (s.size : Int) := by omega
    have t2 : (0 : Int) ≤ (s.size : Int) - 2 - 1 := by omega
    have t3 : ((s.size : Int) - 2 - 1).toNat = s.size - 3 := by omega
    have t4 : s.size - 3 < s.size := by omega
    have t5 : (2 : Int) < (s.size : Int) := by omega
    have t6 : 2 < s.size := by omega
    cases h2 : (((s[2].toNat : Nat) : Int) == 35) with
    | false =>
      rw [Bool.false_and]
      go_enter Tryz.func31, Tryz.ntmps31
      go_wp2_with fail
      go_ret
      exact ⟨rfl, rfl⟩
    | true =>
      rw [Bool.true_and]
      go_enter Tryz.func31, Tryz.ntmps31
      go_wp2_with fail
      go_ret
      exact ⟨rfl, rfl⟩

theorem Kind_any (s : ByteArray) (hs : s.size ≤ 1125899906842624) (w : World) :
    Calls Tryz.prog 17 #[.string s] w fun e w' => e = .returned (.int .i64 ((kindN s.data.toList : Nat) : Int)) ∧ Below w.heap.size w w' := by
  have c1 := fun W => Scan_any s 0 hs W
  have he : (scanI s 0).1 = (((scanN s.data.toList).1 : Nat) : Int) := by
    unfold scanI
    split
    · rename_i h
      have : s.data.toList = [] := List.eq_nil_of_length_eq_zero (by rw [← Lib.size_eq]; omega)
      rw [this]
      rfl
    · rw [show (0 : Int).toNat = 0 from rfl, rest_zero]
      dsimp only
      split
      · rename_i h
        rw [h]
        rfl
      · omega
  rw [he] at c1
  have hle := scanN_le s.data.toList
  have hlen := Lib.size_eq s
  unfold kindN
  rw [← hlen]
  rw [← hlen] at hle
  generalize (scanN s.data.toList).1 = E at *
  generalize (scanI s 0).2 = x at *
  have C1 := Lib.hid c1
  have C2 := Lib.hid (fun W => opn_any s W)
  have C3 := Lib.hid (fun W => pragma_any s hs W)
  clear c1 he hlen
  by_cases h0 : E = 0
  · subst h0
    rw [if_pos (.inl rfl)]
    go_enter Tryz.func17, Tryz.ntmps17
    go_wp2_with fail
    refine (C1.out _).mono ?_
    rintro e w1 ⟨rfl, hb⟩
    have HB := Lib.hid hb
    clear hb
    go_wp2_with fail
    go_ret
    exact ⟨rfl, HB.out⟩
  · have t1 : ((E : Int) == 0) = false := by rw [beq_eq_false_iff_ne]; omega
    by_cases h1 : E < s.size
    · rw [if_pos (.inr h1)]
      have t2 : decide ((E : Int) < (s.size : Int)) = true := decide_eq_true (by omega)
      go_enter Tryz.func17, Tryz.ntmps17
      go_wp2_with fail
      refine (C1.out _).mono ?_
      rintro e w1 ⟨rfl, hb⟩
      have HB := Lib.hid hb
      clear hb
      go_wp2_with fail
      go_ret
      exact ⟨rfl, HB.out⟩
    · rw [if_neg (by omega)]
      have t2 : decide ((E : Int) < (s.size : Int)) = false := decide_eq_false (by omega)
      cases ho : opn s.data.toList with
      | false =>
        rw [if_pos rfl]
        rw [ho] at C2
        go_enter Tryz.func17, Tryz.ntmps17
        go_wp2_with fail
        refine (C1.out _).mono ?_
        rintro e w1 ⟨rfl, hb⟩
        have HB := Lib.hid hb
        clear hb
        go_wp2_with fail
        refine (C2.out _).mono ?_
        rintro e w2 ⟨rfl, rfl⟩
        go_wp2_with fail
        go_ret
        exact ⟨rfl, HB.out⟩
      | true =>
        rw [if_neg (by decide)]
        rw [ho] at C2
        cases hp : prag s.data.toList with
        | true =>
          rw [if_pos rfl]
          rw [hp] at C3
          go_enter Tryz.func17, Tryz.ntmps17
          go_wp2_with fail
          refine (C1.out _).mono ?_
          rintro e w1 ⟨rfl, hb⟩
          have HB := Lib.hid hb
          clear hb
          go_wp2_with fail
          refine (C2.out _).mono ?_
          rintro e w2 ⟨rfl, rfl⟩
          go_wp2_with fail
          refine (C3.out _).mono ?_
          rintro e w3 ⟨rfl, rfl⟩
          go_wp2_with fail
          go_ret
          exact ⟨rfl, HB.out⟩
        | false =>
          rw [if_neg (by decide)]
          rw [hp] at C3
          go_enter Tryz.func17, Tryz.ntmps17
          go_wp2_with fail
          refine (C1.out _).mono ?_
          rintro e w1 ⟨rfl, hb⟩
          have HB := Lib.hid hb
          clear hb
          go_wp2_with fail
          refine (C2.out _).mono ?_
          rintro e w2 ⟨rfl, rfl⟩
          go_wp2_with fail
          refine (C3.out _).mono ?_
          rintro e w3 ⟨rfl, rfl⟩
          go_wp2_with fail
          go_ret
          exact ⟨rfl, HB.out⟩
end Go.Proofs.YtkehchajgdepaaaGreatDoor.Not
/-
  The contracts of the document's own two and Scan for comments. Condition: the string has at most 2^50 bytes.
-/
namespace Go.Proofs.YtkehchajgdepaaaGreatDoor.Not
open Go.RowKit Gly
open Wrd (rn wd run run_le run_stop run_step wd_pos wd_le)
open Plc (nlAt)
set_option linter.unusedSimpArgs false
set_option linter.unusedVariables false

/-- Whether a list begins with two bytes. -/
def twoB (a b : UInt8) : List UInt8 → Bool
  | x :: y :: _ => x == a && y == b
  | _ => false
theorem two_any (s : ByteArray) (p : Nat) (a b : UInt8) (hs : s.size ≤ 1125899906842624) (hp : p ≤ s.size) (w : World) :
    Calls Tryz.prog 40 #[.string s, .int .i64 (p : Int), .int .u8 ((a.toNat : Nat) : Int), .int .u8 ((b.toNat : Nat) : Int)] w fun e w' => e = .returned (.bool (twoB a b (rest s p))) ∧ w = w' := by
  by_cases h : p + 1 < s.size
  · rw [rest_two s p h]
    show Calls _ _ _ w fun e w' => e = .returned (.bool (s[p] == a && s[p + 1] == b)) ∧ w = w'
    rw [u8_beq, u8_beq]
    cases h2 : (((s[p].toNat : Nat) : Int) == ((a.toNat : Nat) : Int)) with
    | false =>
      rw [Bool.false_and]
      go_enter Tryz.func40, Tryz.ntmps40
      go_wp2_with fail
      go_ret
      exact ⟨rfl, rfl⟩
    | true =>
      rw [Bool.true_and]
      go_enter Tryz.func40, Tryz.ntmps40
      go_wp2_with fail
      go_ret
      exact ⟨rfl, rfl⟩
  · have e : twoB a b (rest s p) = false := by
      have hl := rest_len s p
      match hr : rest s p with
      | [] => rfl
      | [x] => rfl
      | x :: y :: r =>
        rw [hr] at hl
        simp only [List.length_cons] at hl
        omega
    rw [e]
    have t0 : decide ((p : Int) + 1 < (s.size : Int)) = false := decide_eq_false (by omega)
    go_enter Tryz.func40, Tryz.ntmps40
    go_wp2_with fail
    go_ret
    exact ⟨rfl, rfl⟩
theorem two_open (s : ByteArray) (p : Nat) (hs : s.size ≤ 1125899906842624) (hp : p ≤ s.size) : Hid (∀ w : World, Calls Tryz.prog 40 #[.string s, .int .i64 (p : Int), .int .u8 123, .int .u8 45] w fun e w' => e = .returned (.bool (opn (rest s p))) ∧ w = w') := by
  have : twoB 123 45 (rest s p) = opn (rest s p) := by
    match rest s p with
    | [] => rfl
    | [x] => rfl
    | x :: y :: r => rfl
  intro w
  rw [← this]
  exact two_any s p 123 45 hs hp w
def cls (L : List UInt8) : Bool := twoB 45 125 L
theorem two_close (s : ByteArray) (p : Nat) (hs : s.size ≤ 1125899906842624) (hp : p ≤ s.size) : Hid (∀ w : World, Calls Tryz.prog 40 #[.string s, .int .i64 (p : Int), .int .u8 45, .int .u8 125] w fun e w' => e = .returned (.bool (cls (rest s p))) ∧ w = w') :=
  fun w => two_any s p 45 125 hs hp w
def dd (L : List UInt8) : Bool := twoB 45 45 L
theorem two_dash (s : ByteArray) (p : Nat) (hs : s.size ≤ 1125899906842624) (hp : p ≤ s.size) : Hid (∀ w : World, Calls Tryz.prog 40 #[.string s, .int .i64 (p : Int), .int .u8 45, .int .u8 45] w fun e w' => e = .returned (.bool (dd (rest s p))) ∧ w = w') :=
  fun w => two_any s p 45 45 hs hp w
theorem cls_split (L : List UInt8) (h : cls L = true) : ∃ r, L = 45 :: 125 :: r := by
  match L, h with
  | b :: c :: r, h =>
    simp [cls, twoB] at h
    exact ⟨r, by rw [h.1, h.2]⟩
theorem dd_split (L : List UInt8) (h : dd L = true) : ∃ r, L = 45 :: 45 :: r := by
  match L, h with
  | b :: c :: r, h =>
    simp [dd, twoB] at h
    exact ⟨r, by rw [h.1, h.2]⟩
theorem open_rest (s : ByteArray) (p : Nat) (h : opn (rest s p) = true) : p + 2 ≤ s.size ∧ rest s p = 123 :: 45 :: rest s (p + 2) := by
  obtain ⟨r, hr⟩ := opn_split _ h
  have hl := rest_len s p
  rw [hr] at hl
  simp only [List.length_cons] at hl
  exact ⟨by omega, by rw [← rest_drop, hr]; rfl⟩
theorem close_rest (s : ByteArray) (p : Nat) (h : cls (rest s p) = true) : p + 2 ≤ s.size ∧ rest s p = 45 :: 125 :: rest s (p + 2) := by
  obtain ⟨r, hr⟩ := cls_split _ h
  have hl := rest_len s p
  rw [hr] at hl
  simp only [List.length_cons] at hl
  exact ⟨by omega, by rw [← rest_drop, hr]; rfl⟩
theorem other_rest (s : ByteArray) (d p : Nat) (hd : 0 < d) (hp : p < s.size) (h1 : opn (rest s p) = false) (h2 : cls (rest s p) = false) : nestR s d p = nestR s d (p + 1) := by
  by_cases h : p + 1 < s.size
  · refine nestR_other s d p hd h ?_
    rw [rest_two s p h] at h1 h2
    unfold pair
    rw [Bool.or_eq_false_iff]
    exact ⟨h1, h2⟩
  · rw [nestR_end s d p hd (by omega), nestR_end s d (p + 1) hd (by omega)]
/-- Two dashes begin with a symbol, and another. -/
theorem dd_run (L : List UInt8) (h : dd L = true) : 2 ≤ run symP L := by
  obtain ⟨r, rfl⟩ := dd_split L h
  have hr : ∀ M : List UInt8, rn (45 :: M) = 45 ∧ wd (45 :: M) = 1 := fun M => by
    unfold Wrd.rn Wrd.wd
    rw [Lib.decodeL_N, show ((45 : UInt8) :: M).getD 0 0 = 45 from rfl, Lib.decodeN_ascii _ _ _ _ _ (by decide)]
    exact ⟨rfl, rfl⟩
  have hs : symP 45 = true := by decide +kernel
  rw [run_step symP _ (by simp) (by rw [(hr _).1]; exact hs), (hr _).2]
  show 2 ≤ 1 + run symP (45 :: r)
  rw [run_step symP _ (by simp) (by rw [(hr _).1]; exact hs), (hr _).2]
  omega
theorem dsh_no (L : List UInt8) (h : dd L = false) : dsh (L.take (run symP L)) = false := by
  cases hd : dsh (L.take (run symP L)) with
  | false => rfl
  | true =>
    have hb := dsh_bytes hd
    have hl := dsh_len hd
    rw [List.length_take] at hl
    match L, h with
    | [], _ => simp at hl
    | [x], _ => simp at hl; omega
    | x :: y :: r, h =>
      obtain ⟨m, hm⟩ : ∃ m, run symP (x :: y :: r) = m + 2 := ⟨run symP (x :: y :: r) - 2, by omega⟩
      rw [hm] at hb
      have hx := hb x (by simp)
      have hy := hb y (by simp)
      subst hx hy
      exact absurd (show dd (45 :: 45 :: r) = true from rfl) (by rw [h]; decide)

theorem mem_rest (s : ByteArray) (n r j : Nat) (hj : j < s.size) (h1 : n ≤ j) (h2 : j < n + r) : s[j] ∈ (rest s n).take r := by
  have hl := Lib.size_eq s
  refine List.mem_iff_getElem?.2 ⟨j - n, ?_⟩
  unfold rest
  rw [List.getElem?_take_of_lt (by omega), List.getElem?_drop, show n + (j - n) = j by omega, List.getElem?_eq_getElem (by omega)]
  rfl
theorem dsh_all (s : ByteArray) (n r : Nat) (h2 : 2 ≤ r) (hle : r ≤ s.size - n) (hn : n ≤ s.size) (hall : ∀ j (hj : j < s.size), n ≤ j → j < n + r → s[j] = 45) : dsh ((rest s n).take r) = true := by
  have hl := rest_len s n
  have hz := Lib.size_eq s
  unfold dsh
  rw [Bool.and_eq_true, decide_eq_true_iff, List.length_take, List.all_eq_true]
  refine ⟨by omega, fun b hb => ?_⟩
  obtain ⟨j, hj⟩ := List.mem_iff_getElem?.1 hb
  have hjr : j < r := by
    rcases Nat.lt_or_ge j r with h | h
    · exact h
    · rw [List.getElem?_take_eq_none h] at hj
      exact absurd hj (by simp)
  unfold rest at hj
  rw [List.getElem?_take_of_lt hjr, List.getElem?_drop, List.getElem?_eq_getElem (by omega)] at hj
  have := hall (n + j) (by omega) (by omega) (by omega)
  rw [beq_iff_eq, ← Option.some.inj hj, ← this]
  rfl

set_option maxHeartbeats 4000000 in
theorem refScan_any (s : ByteArray) (i : Int) (hs : s.size ≤ 1125899906842624) (w : World) :
    Calls Tryz.prog 23 #[.string s, .int .i64 i] w fun e w' => e = .returned (.tuple #[.int .i64 (scanI s i).1, .int .i64 (scanI s i).2]) ∧ w = w' := by
  by_cases h : i < 0 ∨ (s.size : Int) ≤ i
  · rw [scanI_out s i h]
    by_cases h1 : i < 0
    · go_enter Tryz.func23, Tryz.ntmps23
      go_wp2_with fail
      go_ret2
      exact ⟨rfl, rfl⟩
    · have h2 : (s.size : Int) ≤ i := by omega
      clear h
      go_enter Tryz.func23, Tryz.ntmps23
      go_wp2_with fail
      go_ret2
      exact ⟨rfl, rfl⟩
  · obtain ⟨n, rfl⟩ := Int.eq_ofNat_of_zero_le (a := i) (by omega)
    have hn : n < s.size := by omega
    have t1 : decide ((n : Int) < 0) = false := decide_eq_false (by omega)
    have t2 : decide ((s.size : Int) ≤ (n : Int)) = false := decide_eq_false (by omega)
    have t3 : (n : Int) ≤ (s.size : Int) := by omega
    have t4 : (0 : Int) ≤ (n : Int) := by omega
    have C1 := two_dash s n hs (by omega)
    have C2 := two_open s n hs (by omega)
    cases hdd : dd (rest s n) with
    | true =>
      have ho : opn (rest s n) = false := by
        obtain ⟨r, hr⟩ := dd_split _ hdd
        rw [hr]
        rfl
      rw [hdd] at C1
      have c3 := fun W => refrun_any s n hs (by omega) W
      rw [scanI_row s n hn ho]
      dsimp only
      have h2 := dd_run _ hdd
      have hle : run symP (rest s n) ≤ s.size - n := by rw [← rest_len]; exact run_le symP _ _ (Nat.le_refl _)
      unfold rowR
      generalize run symP (rest s n) = r at *
      obtain ⟨R, hR⟩ : ∃ R, (if dsh ((rest s n).take r) = true then n + r + nlEnd (rest s (n + r)) else 0) = R := ⟨_, rfl⟩
      rw [hR]
      have HR := Lib.hid hR
      have C3 := Lib.hid c3
      clear c3 hdd ho hR h
      have h2r : Hid (∀ j (hj : j < s.size), n ≤ j → j < n + r → s[j] ≠ 45 → R = 0) := by
        intro j hj h1 h2 hne
        rw [← HR.out, if_neg]
        intro hd
        exact hne (dsh_bytes hd s[j] (mem_rest s n r j hj h1 h2))
      have h3r : Hid ((∀ j (hj : j < s.size), n ≤ j → j < n + r → s[j] = 45) → n + r + nlEnd (rest s (n + r)) = R) := by
        intro hall
        rw [← HR.out, if_pos]
        refine dsh_all s n r h2 hle (by omega) hall
      have hr1 : n + r ≤ s.size := by omega
      clear HR hle h2
      go_enter Tryz.func23, Tryz.ntmps23
      go_wp2_with fail
      refine (C1.out _).mono ?_
      rintro e w1 ⟨rfl, rfl⟩
      go_wp2_with fail
      refine (C3.out _).mono ?_
      rintro e w1 ⟨rfl, rfl⟩
      go_wp2_with fail
      go_loop [7] (fun kv => ∃ p : Nat, kv = .int .i64 (p : Int) ∧ n ≤ p ∧ p ≤ n + r ∧ (∀ j (hj : j < s.size), n ≤ j → j < p → s[j] = 45)) (fun kv => n + r - (intOf kv).toNat)
      case atStart => exact ⟨n, rfl, by omega, by omega, fun j _ h1 h2 => by omega⟩
      case round =>
        obtain ⟨p, rfl, hp1, hp2, hq⟩ := hrel
        have HQ := Lib.hid hq
        clear hq
        by_cases hp : p < n + r
        · have hps : p < s.size := by omega
          have u0 : decide ((p : Int) < ((n + r : Nat) : Int)) = true := decide_eq_true (by omega)
          by_cases h45 : s[p] = 45
          · have u1 : (((s[p].toNat : Nat) : Int) != 45) = false := by rw [h45]; rfl
            have H := Lib.hid h45
            clear h45
            go_wp2_with fail
            go_round
            case rel =>
              refine ⟨p + 1, by go_num, by omega, by omega, fun j hj h1 h2 => ?_⟩
              by_cases hjp : j = p
              · subst hjp
                exact H.out
              · exact HQ.out j hj h1 (by omega)
            case measure => simp [intOf]; omega
          · have u1 : (((s[p].toNat : Nat) : Int) != 45) = true := by
              rw [bne_iff_ne]
              intro h
              exact h45 (UInt8.toNat_inj.1 (by have : (45 : UInt8).toNat = 45 := rfl; omega))
            have H := Lib.hid (h2r.out p hps hp1 hp h45)
            clear h45
            go_wp2_with fail
            go_ret2
            rw [H.out]
            exact ⟨rfl, rfl⟩
        · obtain rfl : p = n + r := by omega
          have H := Lib.hid (h3r.out HQ.out)
          go_wp2_with fail
          go_loop [6] (fun kv => ∃ p : Nat, kv = .int .i64 (p : Int) ∧ p ≤ s.size ∧ p + nlEnd (rest s p) = R) (fun kv => s.size - (intOf kv).toNat)
          case atStart => exact ⟨n + r, rfl, hr1, H.out⟩
          case round =>
            obtain ⟨p, rfl, hp0, hq⟩ := hrel
            have HP := Lib.hid hq
            clear hq
            by_cases hp : p < s.size
            · by_cases n0 : nlAt s p = 0
              · have E := Plc.end_is s p 0 (by omega) hp0 n0
                have M := Lib.hid (nlEnd_miss s p hp n0)
                clear n0
                go_wp2_with fail
                refine (E.out _).mono ?_
                rintro e w1 ⟨rfl, rfl⟩
                go_wp2_with fail
                go_round
                case rel => exact ⟨p + 1, by go_num, by omega, by rw [← HP.out, M.out]; omega⟩
                case measure => simp [intOf]; omega
              · obtain ⟨k, hk1, hk2⟩ : ∃ k, nlAt s p = k ∧ 1 ≤ k := ⟨_, rfl, by omega⟩
                have E := Plc.end_is s p k (by omega) hp0 hk1
                have u2 : ((k : Int) == 0) = false := by rw [beq_eq_false_iff_ne]; omega
                have M : Hid (p = R) := by
                  have := HP.out
                  rw [nlEnd_hit s p hp n0] at this
                  exact this
                clear n0 hk1
                go_wp2_with fail
                refine (E.out _).mono ?_
                rintro e w1 ⟨rfl, rfl⟩
                go_wp2_with fail
                go_ret2
                rw [← M.out]
                exact ⟨rfl, rfl⟩
            · obtain rfl : p = s.size := by omega
              have M : Hid (s.size = R) := by
                have := HP.out
                rw [rest_nil s _ (Nat.le_refl _)] at this
                exact this
              go_wp2_with fail
              go_ret2
              rw [← M.out]
              exact ⟨rfl, rfl⟩
    | false =>
      rw [hdd] at C1
      have hno := dsh_no _ hdd
      cases ho : opn (rest s n) with
      | false =>
        rw [ho] at C2
        have e : scanI s (n : Int) = (0, 0) := by
          rw [scanI_row s n hn ho]
          unfold rowR
          rw [if_neg (by rw [hno]; decide)]
          rfl
        rw [e]
        clear hdd hno ho e h
        go_enter Tryz.func23, Tryz.ntmps23
        go_wp2_with fail
        refine (C1.out _).mono ?_
        rintro e w1 ⟨rfl, rfl⟩
        go_wp2_with fail
        refine (C2.out _).mono ?_
        rintro e w1 ⟨rfl, rfl⟩
        go_wp2_with fail
        go_ret2
        exact ⟨rfl, rfl⟩
      | true =>
        rw [ho] at C2
        obtain ⟨h1, h2⟩ := scanI_nest s n hn ho
        have hn2 := (open_rest s n ho).1
        rw [h2]
        dsimp only
        obtain ⟨E, hE⟩ : ∃ E, nestR s 1 (n + 2) = E := ⟨_, rfl⟩
        rw [hE]
        obtain ⟨x, hx⟩ : ∃ x : Int, (if E = 0 then 60 else 0 : Int) = x := ⟨_, rfl⟩
        rw [hx]
        have HE := Lib.hid hE
        have HX := Lib.hid hx
        clear hx
        clear hdd hno ho h1 h2 hE h
        go_enter Tryz.func23, Tryz.ntmps23
        go_wp2_with fail
        refine (C1.out _).mono ?_
        rintro e w1 ⟨rfl, rfl⟩
        go_wp2_with fail
        refine (C2.out _).mono ?_
        rintro e w1 ⟨rfl, rfl⟩
        go_wp2_with fail
        go_loop [8, 9] (fun dv kv => ∃ (p d : Nat), kv = .int .i64 (p : Int) ∧ dv = .int .i64 (d : Int) ∧ p ≤ s.size ∧ d ≤ p ∧ ((d = 0 ∧ p = E ∧ 0 < p) ∨ (0 < d ∧ nestR s d p = E))) (fun dv kv => s.size - (intOf kv).toNat)
        case atStart => exact ⟨n + 2, 1, rfl, rfl, hn2, by omega, .inr ⟨by omega, HE.out⟩⟩
        case round =>
          obtain ⟨p, d, rfl, rfl, hp0, hdp, hq⟩ := hrel
          have HQ := Lib.hid hq
          clear hq
          by_cases hd : 0 < d
          · have hr : Hid (nestR s d p = E) := by
              rcases HQ.out with h | h
              · omega
              · exact h.2
            have td : decide ((0 : Int) < (d : Int)) = true := decide_eq_true (by omega)
            by_cases hp : p < s.size
            · have u1 : decide ((s.size : Int) ≤ (p : Int)) = false := decide_eq_false (by omega)
              have D1 := two_open s p hs (by omega)
              have D2 := two_close s p hs (by omega)
              cases o1 : opn (rest s p) with
              | true =>
                rw [o1] at D1
                obtain ⟨k1, k2⟩ := open_rest s p o1
                have K := Lib.hid k2
                clear o1 k2
                go_wp2_with fail
                refine (D1.out _).mono ?_
                rintro e w1 ⟨rfl, rfl⟩
                go_wp2_with fail
                go_round
                case rel => exact ⟨p + 2, d + 1, by go_num, by go_num, k1, by omega, .inr ⟨by omega, by rw [← nestR_open s d p hd K.out]; exact hr.out⟩⟩
                case measure => simp [intOf]; omega
              | false =>
                rw [o1] at D1
                cases o2 : cls (rest s p) with
                | true =>
                  rw [o2] at D2
                  obtain ⟨k1, k2⟩ := close_rest s p o2
                  have K := Lib.hid k2
                  clear o1 o2 k2
                  go_wp2_with fail
                  refine (D1.out _).mono ?_
                  rintro e w1 ⟨rfl, rfl⟩
                  go_wp2_with fail
                  refine (D2.out _).mono ?_
                  rintro e w1 ⟨rfl, rfl⟩
                  go_wp2_with fail
                  go_round
                  case rel =>
                    have hh := hr.out
                    rw [nestR_close s d p hd K.out] at hh
                    refine ⟨p + 2, d - 1, by go_num, by go_num, k1, by omega, ?_⟩
                    by_cases h1 : d = 1
                    · rw [if_pos h1] at hh
                      exact .inl ⟨by omega, hh, by omega⟩
                    · rw [if_neg h1] at hh
                      exact .inr ⟨by omega, hh⟩
                  case measure => simp [intOf]; omega
                | false =>
                  rw [o2] at D2
                  have K := Lib.hid (other_rest s d p hd hp o1 o2)
                  clear o1 o2
                  go_wp2_with fail
                  refine (D1.out _).mono ?_
                  rintro e w1 ⟨rfl, rfl⟩
                  go_wp2_with fail
                  refine (D2.out _).mono ?_
                  rintro e w1 ⟨rfl, rfl⟩
                  go_wp2_with fail
                  go_round
                  case rel => exact ⟨p + 1, d, by go_num, by go_num, by omega, by omega, .inr ⟨hd, by rw [← K.out]; exact hr.out⟩⟩
                  case measure => simp [intOf]; omega
            · have u1 : decide ((s.size : Int) ≤ (p : Int)) = true := decide_eq_true (by omega)
              have HE0 : Hid (E = 0) := by
                have := hr.out
                rw [nestR_end s d p hd (by omega)] at this
                exact this.symm
              go_wp2_with fail
              go_ret2
              have hx := HX.out
              rw [if_pos HE0.out] at hx
              rw [← hx, HE0.out]
              exact ⟨rfl, rfl⟩
          · have td : decide ((0 : Int) < (d : Int)) = false := decide_eq_false (by omega)
            have hr : Hid (p = E ∧ 0 < p) := by
              rcases HQ.out with h | h
              · exact ⟨h.2.1, h.2.2⟩
              · exact absurd h.1 hd
            go_wp2_with fail
            go_ret2
            have hz := hr.out.2
            have hx := HX.out
            rw [if_neg (by have := hr.out.1; omega)] at hx
            rw [← hx, ← hr.out.1]
            exact ⟨rfl, rfl⟩
end Go.Proofs.YtkehchajgdepaaaGreatDoor.Not
