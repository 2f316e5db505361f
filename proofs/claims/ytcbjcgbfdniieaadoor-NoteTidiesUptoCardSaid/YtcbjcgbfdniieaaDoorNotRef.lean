/-
  The contracts of the document's own two and Scan for comments. Condition: the string has at most 2^50 bytes.
-/
import Derived.Test.YtcbjcgbfdniieaaDoorNotKnd
import Derived.Test.YtcbjcgbfdniieaaDoorNotLnk
namespace Go.Proofs.YtcbjcgbfdniieaaDoor.Not
open Go.RowKit Gly
open Wrd (rn wd run run_le run_stop run_step wd_pos wd_le)
open Plc (nlAt)
set_option linter.unusedSimpArgs false
set_option linter.unusedVariables false

/-- Whether a list begins with two bytes. -/
def twoB (a b : UInt8) : List UInt8 → Bool
  | x :: y :: _ => x == a && y == b
  | _ => false
theorem two_any (s : ByteArray) (p : Nat) (a b : UInt8) (hs : s.size ≤ 1125899906842624) (hp : p ≤ s.size) (w : World) :
    Calls Tryd.prog 26 #[.string s, .int .i64 (p : Int), .int .u8 ((a.toNat : Nat) : Int), .int .u8 ((b.toNat : Nat) : Int)] w fun e w' => e = .returned (.bool (twoB a b (rest s p))) ∧ w = w' := by
  by_cases h : p + 1 < s.size
  · rw [rest_two s p h]
    show Calls _ _ _ w fun e w' => e = .returned (.bool (s[p] == a && s[p + 1] == b)) ∧ w = w'
    rw [u8_beq, u8_beq]
    cases h2 : (((s[p].toNat : Nat) : Int) == ((a.toNat : Nat) : Int)) with
    | false =>
      rw [Bool.false_and]
      go_enter Tryd.func26, Tryd.ntmps26
      go_wp2_with fail
      go_ret
      exact ⟨rfl, rfl⟩
    | true =>
      rw [Bool.true_and]
      go_enter Tryd.func26, Tryd.ntmps26
      go_wp2_with fail
      go_ret
      exact ⟨rfl, rfl⟩
  · have e : twoB a b (rest s p) = false := by
      have hl := rest_len s p
      match hr : rest s p with
      | [] => rfl
      | [x] => rfl
      | x :: y :: r =>
        rw [hr] at hl
        simp only [List.length_cons] at hl
        omega
    rw [e]
    have t0 : decide ((p : Int) + 1 < (s.size : Int)) = false := decide_eq_false (by omega)
    go_enter Tryd.func26, Tryd.ntmps26
    go_wp2_with fail
    go_ret
    exact ⟨rfl, rfl⟩
theorem two_open (s : ByteArray) (p : Nat) (hs : s.size ≤ 1125899906842624) (hp : p ≤ s.size) : Hid (∀ w : World, Calls Tryd.prog 26 #[.string s, .int .i64 (p : Int), .int .u8 123, .int .u8 45] w fun e w' => e = .returned (.bool (opn (rest s p))) ∧ w = w') := by
  have : twoB 123 45 (rest s p) = opn (rest s p) := by
    match rest s p with
    | [] => rfl
    | [x] => rfl
    | x :: y :: r => rfl
  intro w
  rw [← this]
  exact two_any s p 123 45 hs hp w
def cls (L : List UInt8) : Bool := twoB 45 125 L
theorem two_close (s : ByteArray) (p : Nat) (hs : s.size ≤ 1125899906842624) (hp : p ≤ s.size) : Hid (∀ w : World, Calls Tryd.prog 26 #[.string s, .int .i64 (p : Int), .int .u8 45, .int .u8 125] w fun e w' => e = .returned (.bool (cls (rest s p))) ∧ w = w') :=
  fun w => two_any s p 45 125 hs hp w
def dd (L : List UInt8) : Bool := twoB 45 45 L
theorem two_dash (s : ByteArray) (p : Nat) (hs : s.size ≤ 1125899906842624) (hp : p ≤ s.size) : Hid (∀ w : World, Calls Tryd.prog 26 #[.string s, .int .i64 (p : Int), .int .u8 45, .int .u8 45] w fun e w' => e = .returned (.bool (dd (rest s p))) ∧ w = w') :=
  fun w => two_any s p 45 45 hs hp w
theorem cls_split (L : List UInt8) (h : cls L = true) : ∃ r, L = 45 :: 125 :: r := by
  match L, h with
  | b :: c :: r, h =>
    simp [cls, twoB] at h
    exact ⟨r, by rw [h.1, h.2]⟩
theorem dd_split (L : List UInt8) (h : dd L = true) : ∃ r, L = 45 :: 45 :: r := by
  match L, h with
  | b :: c :: r, h =>
    simp [dd, twoB] at h
    exact ⟨r, by rw [h.1, h.2]⟩
theorem open_rest (s : ByteArray) (p : Nat) (h : opn (rest s p) = true) : p + 2 ≤ s.size ∧ rest s p = 123 :: 45 :: rest s (p + 2) := by
  obtain ⟨r, hr⟩ := opn_split _ h
  have hl := rest_len s p
  rw [hr] at hl
  simp only [List.length_cons] at hl
  exact ⟨by omega, by rw [← rest_drop, hr]; rfl⟩
theorem close_rest (s : ByteArray) (p : Nat) (h : cls (rest s p) = true) : p + 2 ≤ s.size ∧ rest s p = 45 :: 125 :: rest s (p + 2) := by
  obtain ⟨r, hr⟩ := cls_split _ h
  have hl := rest_len s p
  rw [hr] at hl
  simp only [List.length_cons] at hl
  exact ⟨by omega, by rw [← rest_drop, hr]; rfl⟩
theorem other_rest (s : ByteArray) (d p : Nat) (hd : 0 < d) (hp : p < s.size) (h1 : opn (rest s p) = false) (h2 : cls (rest s p) = false) : nestR s d p = nestR s d (p + 1) := by
  by_cases h : p + 1 < s.size
  · refine nestR_other s d p hd h ?_
    rw [rest_two s p h] at h1 h2
    unfold pair
    rw [Bool.or_eq_false_iff]
    exact ⟨h1, h2⟩
  · rw [nestR_end s d p hd (by omega), nestR_end s d (p + 1) hd (by omega)]
/-- Two dashes begin with a symbol, and another. -/
theorem dd_run (L : List UInt8) (h : dd L = true) : 2 ≤ run symP L := by
  obtain ⟨r, rfl⟩ := dd_split L h
  have hr : ∀ M : List UInt8, rn (45 :: M) = 45 ∧ wd (45 :: M) = 1 := fun M => by
    unfold Wrd.rn Wrd.wd
    rw [Lib.decodeL_N, show ((45 : UInt8) :: M).getD 0 0 = 45 from rfl, Lib.decodeN_ascii _ _ _ _ _ (by decide)]
    exact ⟨rfl, rfl⟩
  have hs : symP 45 = true := by decide +kernel
  rw [run_step symP _ (by simp) (by rw [(hr _).1]; exact hs), (hr _).2]
  show 2 ≤ 1 + run symP (45 :: r)
  rw [run_step symP _ (by simp) (by rw [(hr _).1]; exact hs), (hr _).2]
  omega
theorem dsh_no (L : List UInt8) (h : dd L = false) : dsh (L.take (run symP L)) = false := by
  cases hd : dsh (L.take (run symP L)) with
  | false => rfl
  | true =>
    have hb := dsh_bytes hd
    have hl := dsh_len hd
    rw [List.length_take] at hl
    match L, h with
    | [], _ => simp at hl
    | [x], _ => simp at hl; omega
    | x :: y :: r, h =>
      obtain ⟨m, hm⟩ : ∃ m, run symP (x :: y :: r) = m + 2 := ⟨run symP (x :: y :: r) - 2, by omega⟩
      rw [hm] at hb
      have hx := hb x (by simp)
      have hy := hb y (by simp)
      subst hx hy
      exact absurd (show dd (45 :: 45 :: r) = true from rfl) (by rw [h]; decide)

theorem mem_rest (s : ByteArray) (n r j : Nat) (hj : j < s.size) (h1 : n ≤ j) (h2 : j < n + r) : s[j] ∈ (rest s n).take r := by
  have hl := Lib.size_eq s
  refine List.mem_iff_getElem?.2 ⟨j - n, ?_⟩
  unfold rest
  rw [List.getElem?_take_of_lt (by omega), List.getElem?_drop, show n + (j - n) = j by omega, List.getElem?_eq_getElem (by omega)]
  rfl
theorem dsh_all (s : ByteArray) (n r : Nat) (h2 : 2 ≤ r) (hle : r ≤ s.size - n) (hn : n ≤ s.size) (hall : ∀ j (hj : j < s.size), n ≤ j → j < n + r → s[j] = 45) : dsh ((rest s n).take r) = true := by
  have hl := rest_len s n
  have hz := Lib.size_eq s
  unfold dsh
  rw [Bool.and_eq_true, decide_eq_true_iff, List.length_take, List.all_eq_true]
  refine ⟨by omega, fun b hb => ?_⟩
  obtain ⟨j, hj⟩ := List.mem_iff_getElem?.1 hb
  have hjr : j < r := by
    rcases Nat.lt_or_ge j r with h | h
    · exact h
    · rw [List.getElem?_take_eq_none h] at hj
      exact absurd hj (by simp)
  unfold rest at hj
  rw [List.getElem?_take_of_lt hjr, List.getElem?_drop, List.getElem?_eq_getElem (by omega)] at hj
  have := hall (n + j) (by omega) (by omega) (by omega)
  rw [beq_iff_eq, ← Option.some.inj hj, ← this]
  rfl

set_option maxHeartbeats 4000000 in
theorem refScan_any (s : ByteArray) (i : Int) (hs : s.size ≤ 1125899906842624) (w : World) :
    Calls Tryd.prog 12 #[.string s, .int .i64 i] w fun e w' => e = .returned (.tuple #[.int .i64 (scanI s i).1, .int .i64 (scanI s i).2]) ∧ w = w' := by
  by_cases h : i < 0 ∨ (s.size : Int) ≤ i
  · rw [scanI_out s i h]
    by_cases h1 : i < 0
    · go_enter Tryd.func12, Tryd.ntmps12
      go_wp2_with fail
      go_ret2
      exact ⟨rfl, rfl⟩
    · have h2 : (s.size : Int) ≤ i := by omega
      clear h
      go_enter Tryd.func12, Tryd.ntmps12
      go_wp2_with fail
      go_ret2
      exact ⟨rfl, rfl⟩
  · obtain ⟨n, rfl⟩ := Int.eq_ofNat_of_zero_le (a := i) (by omega)
    have hn : n < s.size := by omega
    have t1 : decide ((n : Int) < 0) = false := decide_eq_false (by omega)
    have t2 : decide ((s.size : Int) ≤ (n : Int)) = false := decide_eq_false (by omega)
    have t3 : (n : Int) ≤ (s.size : Int) := by omega
    have t4 : (0 : Int) ≤ (n : Int) := by omega
    have C1 := two_dash s n hs (by omega)
    have C2 := two_open s n hs (by omega)
    cases hdd : dd (rest s n) with
    | true =>
      have ho : opn (rest s n) = false := by
        obtain ⟨r, hr⟩ := dd_split _ hdd
        rw [hr]
        rfl
      rw [hdd] at C1
      have c3 := fun W => refrun_any s n hs (by omega) W
      rw [scanI_row s n hn ho]
      dsimp only
      have h2 := dd_run _ hdd
      have hle : run symP (rest s n) ≤ s.size - n := by rw [← rest_len]; exact run_le symP _ _ (Nat.le_refl _)
      unfold rowR
      generalize run symP (rest s n) = r at *
      obtain ⟨R, hR⟩ : ∃ R, (if dsh ((rest s n).take r) = true then n + r + nlEnd (rest s (n + r)) else 0) = R := ⟨_, rfl⟩
      rw [hR]
      have HR := Lib.hid hR
      have C3 := Lib.hid c3
      clear c3 hdd ho hR h
      have h2r : Hid (∀ j (hj : j < s.size), n ≤ j → j < n + r → s[j] ≠ 45 → R = 0) := by
        intro j hj h1 h2 hne
        rw [← HR.out, if_neg]
        intro hd
        exact hne (dsh_bytes hd s[j] (mem_rest s n r j hj h1 h2))
      have h3r : Hid ((∀ j (hj : j < s.size), n ≤ j → j < n + r → s[j] = 45) → n + r + nlEnd (rest s (n + r)) = R) := by
        intro hall
        rw [← HR.out, if_pos]
        refine dsh_all s n r h2 hle (by omega) hall
      have hr1 : n + r ≤ s.size := by omega
      clear HR hle h2
      go_enter Tryd.func12, Tryd.ntmps12
      go_wp2_with fail
      refine (C1.out _).mono ?_
      rintro e w1 ⟨rfl, rfl⟩
      go_wp2_with fail
      refine (C3.out _).mono ?_
      rintro e w1 ⟨rfl, rfl⟩
      go_wp2_with fail
      go_loop [7] (fun kv => ∃ p : Nat, kv = .int .i64 (p : Int) ∧ n ≤ p ∧ p ≤ n + r ∧ (∀ j (hj : j < s.size), n ≤ j → j < p → s[j] = 45)) (fun kv => n + r - (intOf kv).toNat)
      case atStart => exact ⟨n, rfl, by omega, by omega, fun j _ h1 h2 => by omega⟩
      case round =>
        obtain ⟨p, rfl, hp1, hp2, hq⟩ := hrel
        have HQ := Lib.hid hq
        clear hq
        by_cases hp : p < n + r
        · have hps : p < s.size := by omega
          have u0 : decide ((p : Int) < ((n + r : Nat) : Int)) = true := decide_eq_true (by omega)
          by_cases h45 : s[p] = 45
          · have u1 : (((s[p].toNat : Nat) : Int) != 45) = false := by rw [h45]; rfl
            have H := Lib.hid h45
            clear h45
            go_wp2_with fail
            go_round
            case rel =>
              refine ⟨p + 1, by go_num, by omega, by omega, fun j hj h1 h2 => ?_⟩
              by_cases hjp : j = p
              · subst hjp
                exact H.out
              · exact HQ.out j hj h1 (by omega)
            case measure => simp [intOf]; omega
          · have u1 : (((s[p].toNat : Nat) : Int) != 45) = true := by
              rw [bne_iff_ne]
              intro h
              exact h45 (UInt8.toNat_inj.1 (by have : (45 : UInt8).toNat = 45 := rfl; omega))
            have H := Lib.hid (h2r.out p hps hp1 hp h45)
            clear h45
            go_wp2_with fail
            go_ret2
            rw [H.out]
            exact ⟨rfl, rfl⟩
        · obtain rfl : p = n + r := by omega
          have H := Lib.hid (h3r.out HQ.out)
          go_wp2_with fail
          go_loop [6] (fun kv => ∃ p : Nat, kv = .int .i64 (p : Int) ∧ p ≤ s.size ∧ p + nlEnd (rest s p) = R) (fun kv => s.size - (intOf kv).toNat)
          case atStart => exact ⟨n + r, rfl, hr1, H.out⟩
          case round =>
            obtain ⟨p, rfl, hp0, hq⟩ := hrel
            have HP := Lib.hid hq
            clear hq
            by_cases hp : p < s.size
            · by_cases n0 : nlAt s p = 0
              · have E := Plc.end_is s p 0 (by omega) hp0 n0
                have M := Lib.hid (nlEnd_miss s p hp n0)
                clear n0
                go_wp2_with fail
                refine (E.out _).mono ?_
                rintro e w1 ⟨rfl, rfl⟩
                go_wp2_with fail
                go_round
                case rel => exact ⟨p + 1, by go_num, by omega, by rw [← HP.out, M.out]; omega⟩
                case measure => simp [intOf]; omega
              · obtain ⟨k, hk1, hk2⟩ : ∃ k, nlAt s p = k ∧ 1 ≤ k := ⟨_, rfl, by omega⟩
                have E := Plc.end_is s p k (by omega) hp0 hk1
                have u2 : ((k : Int) == 0) = false := by rw [beq_eq_false_iff_ne]; omega
                have M : Hid (p = R) := by
                  have := HP.out
                  rw [nlEnd_hit s p hp n0] at this
                  exact this
                clear n0 hk1
                go_wp2_with fail
                refine (E.out _).mono ?_
                rintro e w1 ⟨rfl, rfl⟩
                go_wp2_with fail
                go_ret2
                rw [← M.out]
                exact ⟨rfl, rfl⟩
            · obtain rfl : p = s.size := by omega
              have M : Hid (s.size = R) := by
                have := HP.out
                rw [rest_nil s _ (Nat.le_refl _)] at this
                exact this
              go_wp2_with fail
              go_ret2
              rw [← M.out]
              exact ⟨rfl, rfl⟩
    | false =>
      rw [hdd] at C1
      have hno := dsh_no _ hdd
      cases ho : opn (rest s n) with
      | false =>
        rw [ho] at C2
        have e : scanI s (n : Int) = (0, 0) := by
          rw [scanI_row s n hn ho]
          unfold rowR
          rw [if_neg (by rw [hno]; decide)]
          rfl
        rw [e]
        clear hdd hno ho e h
        go_enter Tryd.func12, Tryd.ntmps12
        go_wp2_with fail
        refine (C1.out _).mono ?_
        rintro e w1 ⟨rfl, rfl⟩
        go_wp2_with fail
        refine (C2.out _).mono ?_
        rintro e w1 ⟨rfl, rfl⟩
        go_wp2_with fail
        go_ret2
        exact ⟨rfl, rfl⟩
      | true =>
        rw [ho] at C2
        obtain ⟨h1, h2⟩ := scanI_nest s n hn ho
        have hn2 := (open_rest s n ho).1
        rw [h2]
        dsimp only
        obtain ⟨E, hE⟩ : ∃ E, nestR s 1 (n + 2) = E := ⟨_, rfl⟩
        rw [hE]
        obtain ⟨x, hx⟩ : ∃ x : Int, (if E = 0 then 60 else 0 : Int) = x := ⟨_, rfl⟩
        rw [hx]
        have HE := Lib.hid hE
        have HX := Lib.hid hx
        clear hx
        clear hdd hno ho h1 h2 hE h
        go_enter Tryd.func12, Tryd.ntmps12
        go_wp2_with fail
        refine (C1.out _).mono ?_
        rintro e w1 ⟨rfl, rfl⟩
        go_wp2_with fail
        refine (C2.out _).mono ?_
        rintro e w1 ⟨rfl, rfl⟩
        go_wp2_with fail
        go_loop [8, 9] (fun dv kv => ∃ (p d : Nat), kv = .int .i64 (p : Int) ∧ dv = .int .i64 (d : Int) ∧ p ≤ s.size ∧ d ≤ p ∧ ((d = 0 ∧ p = E ∧ 0 < p) ∨ (0 < d ∧ nestR s d p = E))) (fun dv kv => s.size - (intOf kv).toNat)
        case atStart => exact ⟨n + 2, 1, rfl, rfl, hn2, by omega, .inr ⟨by omega, HE.out⟩⟩
        case round =>
          obtain ⟨p, d, rfl, rfl, hp0, hdp, hq⟩ := hrel
          have HQ := Lib.hid hq
          clear hq
          by_cases hd : 0 < d
          · have hr : Hid (nestR s d p = E) := by
              rcases HQ.out with h | h
              · omega
              · exact h.2
            have td : decide ((0 : Int) < (d : Int)) = true := decide_eq_true (by omega)
            by_cases hp : p < s.size
            · have u1 : decide ((s.size : Int) ≤ (p : Int)) = false := decide_eq_false (by omega)
              have D1 := two_open s p hs (by omega)
              have D2 := two_close s p hs (by omega)
              cases o1 : opn (rest s p) with
              | true =>
                rw [o1] at D1
                obtain ⟨k1, k2⟩ := open_rest s p o1
                have K := Lib.hid k2
                clear o1 k2
                go_wp2_with fail
                refine (D1.out _).mono ?_
                rintro e w1 ⟨rfl, rfl⟩
                go_wp2_with fail
                go_round
                case rel => exact ⟨p + 2, d + 1, by go_num, by go_num, k1, by omega, .inr ⟨by omega, by rw [← nestR_open s d p hd K.out]; exact hr.out⟩⟩
                case measure => simp [intOf]; omega
              | false =>
                rw [o1] at D1
                cases o2 : cls (rest s p) with
                | true =>
                  rw [o2] at D2
                  obtain ⟨k1, k2⟩ := close_rest s p o2
                  have K := Lib.hid k2
                  clear o1 o2 k2
                  go_wp2_with fail
                  refine (D1.out _).mono ?_
                  rintro e w1 ⟨rfl, rfl⟩
                  go_wp2_with fail
                  refine (D2.out _).mono ?_
                  rintro e w1 ⟨rfl, rfl⟩
                  go_wp2_with fail
                  go_round
                  case rel =>
                    have hh := hr.out
                    rw [nestR_close s d p hd K.out] at hh
                    refine ⟨p + 2, d - 1, by go_num, by go_num, k1, by omega, ?_⟩
                    by_cases h1 : d = 1
                    · rw [if_pos h1] at hh
                      exact .inl ⟨by omega, hh, by omega⟩
                    · rw [if_neg h1] at hh
                      exact .inr ⟨by omega, hh⟩
                  case measure => simp [intOf]; omega
                | false =>
                  rw [o2] at D2
                  have K := Lib.hid (other_rest s d p hd hp o1 o2)
                  clear o1 o2
                  go_wp2_with fail
                  refine (D1.out _).mono ?_
                  rintro e w1 ⟨rfl, rfl⟩
                  go_wp2_with fail
                  refine (D2.out _).mono ?_
                  rintro e w1 ⟨rfl, rfl⟩
                  go_wp2_with fail
                  go_round
                  case rel => exact ⟨p + 1, d, by go_num, by go_num, by omega, by omega, .inr ⟨hd, by rw [← K.out]; exact hr.out⟩⟩
                  case measure => simp [intOf]; omega
            · have u1 : decide ((s.size : Int) ≤ (p : Int)) = true := decide_eq_true (by omega)
              have HE0 : Hid (E = 0) := by
                have := hr.out
                rw [nestR_end s d p hd (by omega)] at this
                exact this.symm
              go_wp2_with fail
              go_ret2
              have hx := HX.out
              rw [if_pos HE0.out] at hx
              rw [← hx, HE0.out]
              exact ⟨rfl, rfl⟩
          · have td : decide ((0 : Int) < (d : Int)) = false := decide_eq_false (by omega)
            have hr : Hid (p = E ∧ 0 < p) := by
              rcases HQ.out with h | h
              · exact ⟨h.2.1, h.2.2⟩
              · exact absurd h.1 hd
            go_wp2_with fail
            go_ret2
            have hz := hr.out.2
            have hx := HX.out
            rw [if_neg (by have := hr.out.1; omega)] at hx
            rw [← hx, ← hr.out.1]
            exact ⟨rfl, rfl⟩
end Go.Proofs.YtcbjcgbfdniieaaDoor.Not
