/-
  The contract of note.nestedEnd. Conditions: the string has at most 2^50 bytes; a nested comment opens at the byte.
-/
import Derived.Test.YtcbjcgbfdniieaaDoorNotBase
import Derived.WalkMore
import Derived.WalkKit
namespace Go.Proofs.YtcbjcgbfdniieaaDoor.Not
open Go.RowKit Gly
set_option linter.unusedSimpArgs false
set_option linter.unusedVariables false

/-- Where the comment ends that is d deep at byte p; 0: it does not. -/
def nestR (s : ByteArray) (d p : Nat) : Nat := if endA d 0 (rest s p) = 0 then 0 else p + endA d 0 (rest s p)
theorem rest_two (s : ByteArray) (p : Nat) (h : p + 1 < s.size) : rest s p = s[p] :: s[p + 1] :: rest s (p + 2) := by
  rw [rest_cons s p (by omega), rest_cons s (p + 1) h]
theorem nestR_open (s : ByteArray) (d p : Nat) (hd : 0 < d) (h : rest s p = 123 :: 45 :: rest s (p + 2)) : nestR s d p = nestR s (d + 1) (p + 2) := by
  unfold nestR
  rw [h, endA_open d hd]
  by_cases e : endA (d + 1) 0 (rest s (p + 2)) = 0
  · rw [if_pos e, if_pos rfl, if_pos e]
  · rw [if_neg e, if_neg (by omega), if_neg e]
    omega
theorem nestR_close (s : ByteArray) (d p : Nat) (hd : 0 < d) (h : rest s p = 45 :: 125 :: rest s (p + 2)) : nestR s d p = if d = 1 then p + 2 else nestR s (d - 1) (p + 2) := by
  unfold nestR
  rw [h, endA_close d hd]
  by_cases h1 : d = 1
  · rw [if_pos h1, if_pos h1, if_neg (by decide)]
  · rw [if_neg h1, if_neg h1]
    by_cases e : endA (d - 1) 0 (rest s (p + 2)) = 0
    · rw [if_pos e, if_pos rfl, if_pos e]
    · rw [if_neg e, if_neg (by omega), if_neg e]
      omega
theorem nestR_other (s : ByteArray) (d p : Nat) (hd : 0 < d) (hp : p + 1 < s.size) (h : pair s[p] s[p + 1] = false) : nestR s d p = nestR s d (p + 1) := by
  unfold nestR
  rw [rest_two s p hp, endA_other d hd _ _ _ h, ← rest_cons s (p + 1) hp]
  by_cases e : endA d 0 (rest s (p + 1)) = 0
  · rw [if_pos e, if_pos rfl, if_pos e]
  · rw [if_neg e, if_neg (by omega), if_neg e]
    omega
theorem nestR_end (s : ByteArray) (d p : Nat) (hd : 0 < d) (hp : s.size ≤ p + 1) : nestR s d p = 0 := by
  unfold nestR
  rw [if_pos]
  by_cases h : p < s.size
  · rw [rest_cons s p h, rest_nil s (p + 1) hp, endA_one d hd]
  · rw [rest_nil s p (by omega)]
    rfl
theorem nestR_le (s : ByteArray) (d p : Nat) (hp : p ≤ s.size) : nestR s d p ≤ s.size := by
  have h1 := endA_le (rest s p) d 0
  rw [rest_len] at h1
  unfold nestR
  split <;> omega
theorem two_list (s : ByteArray) (p : Nat) (h : p + 1 < s.size) : (s.extract p (p + 2)).toList = [s[p], s[p + 1]] := by
  rw [Lib.toList_data, piece_rest, rest_two s p h]
  rfl

set_option maxHeartbeats 2000000 in
theorem nested_any (s : ByteArray) (n : Nat) (hs : s.size ≤ 1125899906842624) (hn : rest s n = 123 :: 45 :: rest s (n + 2)) (w : World) :
    Calls Tryd.prog 25 #[.string s, .int .i64 (n : Int)] w fun e w' => e = .returned (.int .i64 ((nestR s 1 (n + 2) : Nat) : Int)) ∧ w = w' := by
  have hl : n + 2 ≤ s.size := by
    have := congrArg List.length hn
    rw [rest_len] at this
    simp only [List.length_cons] at this
    omega
  obtain ⟨E, hE⟩ : ∃ E, nestR s 1 (n + 2) = E := ⟨_, rfl⟩
  rw [hE]
  have HN := Lib.hid hn
  have HE := Lib.hid hE
  clear hn hE
  go_enter Tryd.func25, Tryd.ntmps25
  go_wp2
  go_step3
  go_wp2
  go_step3
  go_wp2
  go_loop [1, 5, 6] (fun av dv ev => ∃ (p d : Nat), av = .int .i64 (p : Int) ∧ dv = .int .i64 (d : Int) ∧ ev = .int .i64 0 ∧ p ≤ s.size ∧ d ≤ p ∧ ((d = 0 ∧ p = n) ∨ (0 < d ∧ nestR s d p = E))) (fun av _ _ => s.size - (intOf av).toNat)
  case atStart => exact ⟨n, 0, rfl, rfl, rfl, by omega, by omega, .inl ⟨rfl, rfl⟩⟩
  case round =>
    obtain ⟨p, d, rfl, rfl, rfl, hp0, hdp, hq⟩ := hrel
    have HQ := Lib.hid hq
    clear hq
    by_cases hp : p + 1 < s.size
    · have hx := two_list s p hp
      obtain ⟨x, hxe⟩ : ∃ x, s.extract p (p + 2) = x := ⟨_, rfl⟩
      rw [hxe] at hx
      have h2 := rest_two s p hp
      have t0 : (p : Int) + 2 ≤ (s.size : Int) := by omega
      have t1 : (0 : Int) ≤ (p : Int) := by omega
      have t2 : (p : Int) ≤ (p : Int) + 2 := by omega
      cases c1 : x.toList == [123, 45] with
      | true =>
        have hop : Hid (rest s p = 123 :: 45 :: rest s (p + 2)) := by
          have := beq_iff_eq.1 c1
          rw [hx] at this
          unfold Hid
          rw [h2]
          simp only [List.cons.injEq, and_true] at this ⊢
          exact this
        clear h2 hx
        go_wp2
        go_round
        case rel =>
          refine ⟨p + 2, d + 1, by go_num, by go_num, rfl, by omega, by omega, .inr ⟨by omega, ?_⟩⟩
          rcases HQ.out with ⟨rfl, rfl⟩ | ⟨h1, h2⟩
          · exact HE.out
          · rw [← nestR_open s d p h1 hop.out]
            exact h2
        case measure => simp [intOf]; omega
      | false =>
        have hd : 0 < d := by
          rcases HQ.out with ⟨rfl, rfl⟩ | ⟨h1, h2⟩
          · exfalso
            rw [hx] at c1
            have := HN.out
            rw [h2] at this
            simp only [List.cons.injEq, and_true] at this
            rw [this.1, this.2] at c1
            exact absurd c1 (by decide)
          · exact h1
        have HR : Hid (nestR s d p = E) := by
          rcases HQ.out with ⟨rfl, rfl⟩ | ⟨h1, h2⟩
          · omega
          · exact h2
        cases c2 : x.toList == [45, 125] with
        | true =>
          have hcl : Hid (rest s p = 45 :: 125 :: rest s (p + 2)) := by
            have := beq_iff_eq.1 c2
            rw [hx] at this
            unfold Hid
            rw [h2]
            simp only [List.cons.injEq, and_true] at this ⊢
            exact this
          clear h2 hx
          by_cases h1 : d = 1
          · subst h1
            have HR2 : Hid (p + 2 = E) := by
              have := HR.out
              rw [nestR_close s 1 p (by omega) hcl.out, if_pos rfl] at this
              exact this
            go_wp2
            go_ret
            exact ⟨by rw [← HR2.out]; rfl, rfl⟩
          · have hz : (((d : Int) - 1) == 0) = false := by rw [beq_eq_false_iff_ne]; omega
            go_wp2
            go_round
            case rel =>
              refine ⟨p + 2, d - 1, by go_num, by go_num, rfl, by omega, by omega, .inr ⟨by omega, ?_⟩⟩
              have := HR.out
              rw [nestR_close s d p hd hcl.out, if_neg h1] at this
              exact this
            case measure => simp [intOf]; omega
        | false =>
          have hno : Hid (pair s[p] s[p + 1] = false) := by
            rw [hx] at c1 c2
            unfold Hid pair
            rw [Bool.or_eq_false_iff]
            simp only [List.cons_beq_cons, Bool.and_true, List.nil_beq_eq, List.isEmpty_nil] at c1 c2
            exact ⟨by simpa using c1, by simpa using c2⟩
          clear h2 hx
          go_wp2
          go_round
          case rel =>
            refine ⟨p + 1, d, by go_num, by go_num, rfl, by omega, by omega, .inr ⟨hd, ?_⟩⟩
            rw [← nestR_other s d p hd hp hno.out]
            exact HR.out
          case measure => simp [intOf]; omega
    · have hd : 0 < d := by
        rcases HQ.out with ⟨rfl, rfl⟩ | ⟨h1, h2⟩
        · omega
        · exact h1
      have HR : Hid (E = 0) := by
        rcases HQ.out with ⟨rfl, rfl⟩ | ⟨h1, h2⟩
        · omega
        · rw [← h2]
          exact nestR_end s d p h1 (by omega)
      have t0 : (s.size : Int) < (p : Int) + 2 := by omega
      go_wp2
      go_ret
      exact ⟨by rw [HR.out]; rfl, rfl⟩
end Go.Proofs.YtcbjcgbfdniieaaDoor.Not
