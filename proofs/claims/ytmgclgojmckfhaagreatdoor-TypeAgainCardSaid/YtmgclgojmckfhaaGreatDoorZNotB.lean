/-
  The contract of note.nestedEnd. Conditions: the string has at most 2^50 bytes; a nested comment opens at the byte.
-/
import Derived.Test.YtmgclgojmckfhaaGreatDoorZNotA
import Derived.WalkMore
import Derived.WalkKit
namespace Go.Proofs.YtmgclgojmckfhaaGreatDoor.Not
open Go.RowKit Gly
set_option linter.unusedSimpArgs false
set_option linter.unusedVariables false

/-- Where the comment ends that is d deep at byte p; 0: it does not. -/
def nestR (s : ByteArray) (d p : Nat) : Nat := if endA d 0 (rest s p) = 0 then 0 else p + endA d 0 (rest s p)
theorem rest_two (s : ByteArray) (p : Nat) (h : p + 1 < s.size) : rest s p = s[p] :: s[p + 1] :: rest s (p + 2) := by
  rw [rest_cons s p (by omega), rest_cons s (p + 1) h]
theorem nestR_open (s : ByteArray) (d p : Nat) (hd : 0 < d) (h : rest s p = 123 :: 45 :: rest s (p + 2)) : nestR s d p = nestR s (d + 1) (p + 2) := by
  unfold nestR
  rw [h, endA_open d hd]
  by_cases e : endA (d + 1) 0 (rest s (p + 2)) = 0
  · rw [if_pos e, if_pos rfl, if_pos e]
  · rw [if_neg e, if_neg (by omega), if_neg e]
    omega
theorem nestR_close (s : ByteArray) (d p : Nat) (hd : 0 < d) (h : rest s p = 45 :: 125 :: rest s (p + 2)) : nestR s d p = if d = 1 then p + 2 else nestR s (d - 1) (p + 2) := by
  unfold nestR
  rw [h, endA_close d hd]
  by_cases h1 : d = 1
  · rw [if_pos h1, if_pos h1, if_neg (by decide)]
  · rw [if_neg h1, if_neg h1]
    by_cases e : endA (d - 1) 0 (rest s (p + 2)) = 0
    · rw [if_pos e, if_pos rfl, if_pos e]
    · rw [if_neg e, if_neg (by omega), if_neg e]
      omega
theorem nestR_other (s : ByteArray) (d p : Nat) (hd : 0 < d) (hp : p + 1 < s.size) (h : pair s[p] s[p + 1] = false) : nestR s d p = nestR s d (p + 1) := by
  unfold nestR
  rw [rest_two s p hp, endA_other d hd _ _ _ h, ← rest_cons s (p + 1) hp]
  by_cases e : endA d 0 (rest s (p + 1)) = 0
  · rw [if_pos e, if_pos rfl, if_pos e]
  · rw [if_neg e, if_neg (by omega), if_neg e]
    omega
theorem nestR_end (s : ByteArray) (d p : Nat) (hd : 0 < d) (hp : s.size ≤ p + 1) : nestR s d p = 0 := by
  unfold nestR
  rw [if_pos]
  by_cases h : p < s.size
  · rw [rest_cons s p h, rest_nil s (p + 1) hp, endA_one d hd]
  · rw [rest_nil s p (by omega)]
    rfl
theorem two_list (s : ByteArray) (p : Nat) (h : p + 1 < s.size) : (s.extract p (p + 2)).toList = [s[p], s[p + 1]] := by
  rw [Lib.toList_data, piece_rest, rest_two s p h]
  rfl

set_option maxHeartbeats 2000000 in
theorem nested_any (s : ByteArray) (n : Nat) (hs : s.size ≤ 1125899906842624) (hn : rest s n = 123 :: 45 :: rest s (n + 2)) (w : World) :
    Calls Tryz.prog 59 #[.string s, .int .i64 (n : Int)] w fun e w' => e = .returned (.int .i64 ((nestR s 1 (n + 2) : Nat) : Int)) ∧ w = w' := by
  have hl : n + 2 ≤ s.size := by
    have := congrArg List.length hn
    rw [rest_len] at this
    simp only [List.length_cons] at this
    omega
  obtain ⟨E, hE⟩ : ∃ E, nestR s 1 (n + 2) = E := ⟨_, rfl⟩
  rw [hE]
  have HN := Lib.hid hn
  have HE := Lib.hid hE
  clear hn hE
  go_enter Tryz.func59, Tryz.ntmps59
  go_wp2
  go_step3
  go_wp2
  go_step3
  go_wp2
  go_loop [1, 5, 6] (fun av dv ev => ∃ (p d : Nat), av = .int .i64 (p : Int) ∧ dv = .int .i64 (d : Int) ∧ ev = .int .i64 0 ∧ p ≤ s.size ∧ d ≤ p ∧ ((d = 0 ∧ p = n) ∨ (0 < d ∧ nestR s d p = E))) (fun av _ _ => s.size - (intOf av).toNat)
  case atStart => exact ⟨n, 0, rfl, rfl, rfl, by omega, by omega, .inl ⟨rfl, rfl⟩⟩
  case round =>
    obtain ⟨p, d, rfl, rfl, rfl, hp0, hdp, hq⟩ := hrel
    have HQ := Lib.hid hq
    clear hq
    by_cases hp : p + 1 < s.size
    · have hx := two_list s p hp
      obtain ⟨x, hxe⟩ : ∃ x, s.extract p (p + 2) = x := ⟨_, rfl⟩
      rw [hxe] at hx
      have h2 := rest_two s p hp
      have t0 : (p : Int) + 2 ≤ (s.size : Int) := by omega
      have t1 : (0 : Int) ≤ (p : Int) := by omega
      have t2 : (p : Int) ≤ (p : Int) + 2 := by omega
      cases c1 : x.toList == [123, 45] with
      | true =>
        have hop : Hid (rest s p = 123 :: 45 :: rest s (p + 2)) := by
          have := beq_iff_eq.1 c1
          rw [hx] at this
          unfold Hid
          rw [h2]
          simp only [List.cons.injEq, and_true] at this ⊢
          exact this
        clear h2 hx
        go_wp2
        go_round
        case rel =>
          refine ⟨p + 2, d + 1, by go_num, by go_num, rfl, by omega, by omega, .inr ⟨by omega, ?_⟩⟩
          rcases HQ.out with ⟨rfl, rfl⟩ | ⟨h1, h2⟩
          · exact HE.out
          · rw [← nestR_open s d p h1 hop.out]
            exact h2
        case measure => simp [intOf]; omega
      | false =>
        have hd : 0 < d := by
          rcases HQ.out with ⟨rfl, rfl⟩ | ⟨h1, h2⟩
          · exfalso
            rw [hx] at c1
            have := HN.out
            rw [h2] at this
            simp only [List.cons.injEq, and_true] at this
            rw [this.1, this.2] at c1
            exact absurd c1 (by decide)
          · exact h1
        have HR : Hid (nestR s d p = E) := by
          rcases HQ.out with ⟨rfl, rfl⟩ | ⟨h1, h2⟩
          · omega
          · exact h2
        cases c2 : x.toList == [45, 125] with
        | true =>
          have hcl : Hid (rest s p = 45 :: 125 :: rest s (p + 2)) := by
            have := beq_iff_eq.1 c2
            rw [hx] at this
            unfold Hid
            rw [h2]
            simp only [List.cons.injEq, and_true] at this ⊢
            exact this
          clear h2 hx
          by_cases h1 : d = 1
          · subst h1
            have HR2 : Hid (p + 2 = E) := by
              have := HR.out
              rw [nestR_close s 1 p (by omega) hcl.out, if_pos rfl] at this
              exact this
            go_wp2
            go_ret
            exact ⟨by rw [← HR2.out]; rfl, rfl⟩
          · have hz : (((d : Int) - 1) == 0) = false := by rw [beq_eq_false_iff_ne]; omega
            go_wp2
            go_round
            case rel =>
              refine ⟨p + 2, d - 1, by go_num, by go_num, rfl, by omega, by omega, .inr ⟨by omega, ?_⟩⟩
              have := HR.out
              rw [nestR_close s d p hd hcl.out, if_neg h1] at this
              exact this
            case measure => simp [intOf]; omega
        | false =>
          have hno : Hid (pair s[p] s[p + 1] = false) := by
            rw [hx] at c1 c2
            unfold Hid pair
            rw [Bool.or_eq_false_iff]
            simp only [List.cons_beq_cons, Bool.and_true, List.nil_beq_eq, List.isEmpty_nil] at c1 c2
            exact ⟨by simpa using c1, by simpa using c2⟩
          clear h2 hx
          go_wp2
          go_round
          case rel =>
            refine ⟨p + 1, d, by go_num, by go_num, rfl, by omega, by omega, .inr ⟨hd, ?_⟩⟩
            rw [← nestR_other s d p hd hp hno.out]
            exact HR.out
          case measure => simp [intOf]; omega
    · have hd : 0 < d := by
        rcases HQ.out with ⟨rfl, rfl⟩ | ⟨h1, h2⟩
        · omega
        · exact h1
      have HR : Hid (E = 0) := by
        rcases HQ.out with ⟨rfl, rfl⟩ | ⟨h1, h2⟩
        · omega
        · rw [← h2]
          exact nestR_end s d p h1 (by omega)
      have t0 : (s.size : Int) < (p : Int) + 2 := by omega
      go_wp2
      go_ret
      exact ⟨by rw [HR.out]; rfl, rfl⟩
end Go.Proofs.YtmgclgojmckfhaaGreatDoor.Not
/-
  The contracts of note's isDashes, rowEnd, Scan, isPragma and Kind. Condition: the string has at most 2^50 bytes.
-/
namespace Go.Proofs.YtmgclgojmckfhaaGreatDoor.Not
open Go.RowKit Gly
open Wrd (rn wd run run_le run_stop run_step wd_pos wd_le)
set_option linter.unusedSimpArgs false
set_option linter.unusedVariables false

theorem toList_mk (l : List UInt8) : (⟨l.toArray⟩ : ByteArray).toList = l := by rw [Lib.toList_data]
theorem below_trans {w w1 w2 : World} (h : Below w.heap.size w w1) (k : Below w1.heap.size w1 w2) : Below w.heap.size w w2 := h.trans (k.mono h.size)
theorem dsh_trim (L : List UInt8) : dsh L = (decide (2 ≤ L.length) && (Lib.trimB L 45).isEmpty) := by
  unfold dsh
  congr 1
  rw [Bool.eq_iff_iff, List.all_eq_true, List.isEmpty_iff, trimB_dash]
  exact ⟨fun h b hb => beq_iff_eq.1 (h b hb), fun h b hb => beq_iff_eq.2 (h b hb)⟩
theorem dash_any (s : ByteArray) (hs : s.size ≤ 1125899906842624) (w : World) :
    Calls Tryz.prog 75 #[.string s] w fun e w' => e = .returned (.bool (dsh s.data.toList)) ∧ Below w.heap.size w w' := by
  rw [dsh_trim, ← Lib.size_eq]
  have c := fun W => trimDash_any s hs W
  generalize Lib.trimB s.data.toList 45 = t at *
  have hx := toList_mk t
  obtain ⟨x, hxe⟩ : ∃ x, (⟨t.toArray⟩ : ByteArray) = x := ⟨_, rfl⟩
  rw [hxe] at hx
  rw [hxe] at c
  rw [← hx]
  have C := Lib.hid c
  clear c hx hxe
  by_cases h : s.size < 2
  · have t0 : decide ((2 : Int) ≤ (s.size : Int)) = false := decide_eq_false (by omega)
    have t1 : decide (2 ≤ s.size) = false := decide_eq_false (by omega)
    rw [t1]
    go_enter Tryz.func75, Tryz.ntmps75
    go_wp2_with fail
    go_ret
    exact ⟨rfl, Below.refl _ _⟩
  · have t0 : decide ((2 : Int) ≤ (s.size : Int)) = true := decide_eq_true (by omega)
    have t1 : decide (2 ≤ s.size) = true := decide_eq_true (by omega)
    rw [t1, Bool.true_and]
    go_enter Tryz.func75, Tryz.ntmps75
    go_wp2_with fail
    refine (C.out _).mono ?_
    rintro e w1 ⟨rfl, hb⟩
    have HB := Lib.hid hb
    clear hb
    go_wp2_with fail
    go_ret
    exact ⟨rfl, HB.out⟩

/-- Where the line comment ends that begins at byte n; 0: none begins. -/
def rowR (s : ByteArray) (n : Nat) : Nat := if dsh ((rest s n).take (run symP (rest s n))) = true then n + run symP (rest s n) + nlEnd (rest s (n + run symP (rest s n))) else 0
theorem tail_size (s : ByteArray) (n : Nat) (h : n ≤ s.size) : (s.extract n s.size).size = s.size - n := by
  rw [Lib.size_eq, tail_rest, rest_len]
theorem row_any (s : ByteArray) (n : Nat) (hs : s.size ≤ 1125899906842624) (hn : n ≤ s.size) (w : World) :
    Calls Tryz.prog 58 #[.string s, .int .i64 (n : Int)] w fun e w' => e = .returned (.int .i64 ((rowR s n : Nat) : Int)) ∧ Below w.heap.size w w' := by
  have c1 := fun W => symbols_any s n hs hn W
  unfold rowR
  have hr : run symP (rest s n) ≤ s.size - n := by rw [← rest_len]; exact run_le symP _ _ (Nat.le_refl _)
  generalize run symP (rest s n) = r at *
  have hp : (s.extract n (n + r)).data.toList = (rest s n).take r := piece_rest s n r
  have hps : (s.extract n (n + r)).size ≤ 1125899906842624 := by rw [Lib.size_eq, hp, List.length_take]; omega
  have c2 := fun W => dash_any (s.extract n (n + r)) hps W
  rw [hp] at c2
  have hts := tail_size s (n + r) (by omega)
  have c3 := fun W => idx_any (s.extract (n + r) s.size) (by omega) W
  rw [tail_rest, hts] at c3
  have hl := nlEnd_le (rest s (n + r))
  rw [rest_len] at hl
  generalize nlEnd (rest s (n + r)) = k at *
  have t1 : (0 : Int) ≤ (n : Int) := by omega
  have t2 : (n : Int) ≤ ((n + r : Nat) : Int) := by omega
  have t3 : ((n + r : Nat) : Int) ≤ (s.size : Int) := by omega
  have t4 : (n + r : Nat) ≤ s.size := by omega
  clear hp hps hts
  generalize hE : n + r = E at *
  have C1 := Lib.hid c1
  have C2 := Lib.hid c2
  have C3 := Lib.hid c3
  clear c1 c2 c3
  cases hd : dsh ((rest s n).take r) with
  | false =>
    rw [hd] at C2
    rw [if_neg (by decide)]
    go_enter Tryz.func58, Tryz.ntmps58
    go_wp2_with fail
    refine (C1.out _).mono ?_
    rintro e w1 ⟨rfl, hb1⟩
    have HB1 := Lib.hid hb1
    clear hb1
    go_wp2_with fail
    refine (C2.out _).mono ?_
    rintro e w2 ⟨rfl, hb2⟩
    have HB2 := Lib.hid (below_trans HB1.out hb2)
    clear hb2
    go_wp2_with fail
    go_ret
    exact ⟨rfl, HB2.out⟩
  | true =>
    rw [hd] at C2
    rw [if_pos rfl]
    by_cases hk : k = s.size - E
    · rw [if_pos hk] at C3
      have HE : Hid (((E + k : Nat) : Int) = (s.size : Int)) := by unfold Hid; omega
      go_enter Tryz.func58, Tryz.ntmps58
      go_wp2_with fail
      refine (C1.out _).mono ?_
      rintro e w1 ⟨rfl, hb1⟩
      have HB1 := Lib.hid hb1
      clear hb1
      go_wp2_with fail
      refine (C2.out _).mono ?_
      rintro e w2 ⟨rfl, hb2⟩
      have HB2 := Lib.hid (below_trans HB1.out hb2)
      clear hb2
      go_wp2_with fail
      refine (C3.out _).mono ?_
      rintro e w3 ⟨rfl, hb3⟩
      have HB3 := Lib.hid (below_trans HB2.out hb3)
      clear hb3
      go_wp2_with fail
      go_ret
      exact ⟨by rw [HE.out]; rfl, HB3.out⟩
    · rw [if_neg hk] at C3
      have t5 : decide ((k : Int) < 0) = false := decide_eq_false (by omega)
      go_enter Tryz.func58, Tryz.ntmps58
      go_wp2_with fail
      refine (C1.out _).mono ?_
      rintro e w1 ⟨rfl, hb1⟩
      have HB1 := Lib.hid hb1
      clear hb1
      go_wp2_with fail
      refine (C2.out _).mono ?_
      rintro e w2 ⟨rfl, hb2⟩
      have HB2 := Lib.hid (below_trans HB1.out hb2)
      clear hb2
      go_wp2_with fail
      refine (C3.out _).mono ?_
      rintro e w3 ⟨rfl, hb3⟩
      have HB3 := Lib.hid (below_trans HB2.out hb3)
      clear hb3
      go_wp2_with fail
      go_ret
      exact ⟨by go_num, HB3.out⟩

/-- Where the comment ends that begins at a byte, and the error. -/
def scanI (s : ByteArray) (i : Int) : Int × Int :=
  if i < 0 ∨ (s.size : Int) ≤ i then (0, 0) else (if (scanN (rest s i.toNat)).1 = 0 then 0 else i + (((scanN (rest s i.toNat)).1 : Nat) : Int), (((scanN (rest s i.toNat)).2 : Nat) : Int))
theorem scanI_out (s : ByteArray) (i : Int) (h : i < 0 ∨ (s.size : Int) ≤ i) : scanI s i = (0, 0) := by unfold scanI; rw [if_pos h]
theorem scanI_in (s : ByteArray) (n : Nat) (h : n < s.size) (e x : Nat) (hq : scanN (rest s n) = (e, x)) : scanI s (n : Int) = (if e = 0 then 0 else (((n + e : Nat)) : Int), (x : Int)) := by
  unfold scanI
  rw [if_neg (by omega), Int.toNat_natCast, hq]
  rfl
theorem scanI_row (s : ByteArray) (n : Nat) (h : n < s.size) (ho : opn (rest s n) = false) : scanI s (n : Int) = (((rowR s n : Nat) : Int), 0) := by
  unfold rowR
  by_cases hd : dsh ((rest s n).take (run symP (rest s n))) = true
  · have h2 := (dsh_len hd)
    rw [List.length_take] at h2
    have hq : scanN (rest s n) = (run symP (rest s n) + nlEnd (rest s (n + run symP (rest s n))), 0) := by
      unfold scanN
      rw [if_neg (by rw [ho]; decide), if_pos hd, rest_drop]
    rw [scanI_in s n h _ _ hq, if_pos hd, if_neg (by omega), Nat.add_assoc]
    rfl
  · have hq : scanN (rest s n) = (0, 0) := by
      unfold scanN
      rw [if_neg (by rw [ho]; decide), if_neg hd]
    rw [scanI_in s n h _ _ hq, if_neg hd, if_pos rfl]
    rfl
theorem scanI_nest (s : ByteArray) (n : Nat) (h : n < s.size) (ho : opn (rest s n) = true) : rest s n = 123 :: 45 :: rest s (n + 2) ∧ scanI s (n : Int) = (((nestR s 1 (n + 2) : Nat) : Int), if nestR s 1 (n + 2) = 0 then 60 else 0) := by
  obtain ⟨r, hr⟩ := opn_split _ ho
  have hd : rest s (n + 2) = r := by rw [← rest_drop, hr]; rfl
  refine ⟨by rw [hd]; exact hr, ?_⟩
  unfold nestR
  by_cases he : endA 1 0 (rest s (n + 2)) = 0
  · have hq : scanN (rest s n) = (0, 60) := by
      unfold scanN
      rw [if_pos ho, rest_drop, if_pos he]
    rw [scanI_in s n h _ _ hq, if_pos he, if_pos rfl, if_pos rfl]
    rfl
  · have hq : scanN (rest s n) = (endA 1 0 (rest s (n + 2)) + 2, 0) := by
      unfold scanN
      rw [if_pos ho, rest_drop, if_neg he]
    rw [scanI_in s n h _ _ hq, if_neg he, if_neg (by omega), if_neg (by omega), show n + (endA 1 0 (rest s (n + 2)) + 2) = n + 2 + endA 1 0 (rest s (n + 2)) by omega]
    rfl
theorem Scan_any (s : ByteArray) (i : Int) (hs : s.size ≤ 1125899906842624) (w : World) :
    Calls Tryz.prog 45 #[.string s, .int .i64 i] w fun e w' => e = .returned (.tuple #[.int .i64 (scanI s i).1, .int .i64 (scanI s i).2]) ∧ Below w.heap.size w w' := by
  by_cases h : i < 0 ∨ (s.size : Int) ≤ i
  · rw [scanI_out s i h]
    by_cases h1 : i < 0
    · go_enter Tryz.func45, Tryz.ntmps45
      go_wp2_with fail
      go_ret2
      exact ⟨rfl, Below.refl _ _⟩
    · have h2 : (s.size : Int) ≤ i := by omega
      clear h
      go_enter Tryz.func45, Tryz.ntmps45
      go_wp2_with fail
      go_ret2
      exact ⟨rfl, Below.refl _ _⟩
  · obtain ⟨n, rfl⟩ := Int.eq_ofNat_of_zero_le (a := i) (by omega)
    have hn : n < s.size := by omega
    have c1 := fun W => opn_any (s.extract n s.size) W
    rw [tail_rest] at c1
    have t1 : decide ((n : Int) < 0) = false := decide_eq_false (by omega)
    have t2 : decide ((s.size : Int) ≤ (n : Int)) = false := decide_eq_false (by omega)
    have t3 : (n : Int) ≤ (s.size : Int) := by omega
    have t4 : (0 : Int) ≤ (n : Int) := by omega
    cases ho : opn (rest s n) with
    | false =>
      rw [scanI_row s n hn ho]
      rw [ho] at c1
      have c2 := fun W => row_any s n hs (by omega) W
      dsimp only
      generalize rowR s n = r at *
      have C1 := Lib.hid c1
      have C2 := Lib.hid c2
      clear c1 c2 ho h
      go_enter Tryz.func45, Tryz.ntmps45
      go_wp2_with fail
      refine (C1.out _).mono ?_
      rintro e w1 ⟨rfl, rfl⟩
      go_wp2_with fail
      refine (C2.out _).mono ?_
      rintro e w2 ⟨rfl, hb⟩
      have HB := Lib.hid hb
      clear hb
      go_wp2_with fail
      go_ret2
      exact ⟨rfl, HB.out⟩
    | true =>
      obtain ⟨h1, h2⟩ := scanI_nest s n hn ho
      rw [h2]
      rw [ho] at c1
      have c2 := fun W => nested_any s n hs h1 W
      dsimp only
      generalize nestR s 1 (n + 2) = r at *
      have C1 := Lib.hid c1
      have C2 := Lib.hid c2
      clear c1 c2 ho h h1 h2
      by_cases hr : r = 0
      · subst hr
        rw [if_pos rfl]
        go_enter Tryz.func45, Tryz.ntmps45
        go_wp2_with fail
        refine (C1.out _).mono ?_
        rintro e w1 ⟨rfl, rfl⟩
        go_wp2_with fail
        refine (C2.out _).mono ?_
        rintro e w2 ⟨rfl, rfl⟩
        go_wp2_with fail
        go_ret2
        exact ⟨rfl, Below.refl _ _⟩
      · rw [if_neg hr]
        have t5 : ((r : Int) == 0) = false := by rw [beq_eq_false_iff_ne]; omega
        go_enter Tryz.func45, Tryz.ntmps45
        go_wp2_with fail
        refine (C1.out _).mono ?_
        rintro e w1 ⟨rfl, rfl⟩
        go_wp2_with fail
        refine (C2.out _).mono ?_
        rintro e w2 ⟨rfl, rfl⟩
        go_wp2_with fail
        go_ret2
        exact ⟨rfl, Below.refl _ _⟩
end Go.Proofs.YtmgclgojmckfhaaGreatDoor.Not
/-
  The contracts of note's isPragma and Kind. Condition: the string has at most 2^50 bytes.
-/
namespace Go.Proofs.YtmgclgojmckfhaaGreatDoor.Not
open Go.RowKit Gly
set_option linter.unusedSimpArgs false
set_option linter.unusedVariables false

theorem getD_at (s : ByteArray) (n : Nat) (h : n < s.size) : s.data.toList.getD n 0 = s[n] := by
  have hl := Lib.size_eq s
  rw [List.getD_eq_getElem?_getD, List.getElem?_eq_getElem (by omega)]
  rfl
end Go.Proofs.YtmgclgojmckfhaaGreatDoor.Not
/-
  The contracts of the document's own two and Scan for comments. Condition: the string has at most 2^50 bytes.
-/
namespace Go.Proofs.YtmgclgojmckfhaaGreatDoor.Not
open Go.RowKit Gly
open Wrd (rn wd run run_le run_stop run_step wd_pos wd_le)
open Plc (nlAt)
set_option linter.unusedSimpArgs false
set_option linter.unusedVariables false

/-- Whether a list begins with two bytes. -/
def twoB (a b : UInt8) : List UInt8 → Bool
  | x :: y :: _ => x == a && y == b
  | _ => false
def dd (L : List UInt8) : Bool := twoB 45 45 L
end Go.Proofs.YtmgclgojmckfhaaGreatDoor.Not
