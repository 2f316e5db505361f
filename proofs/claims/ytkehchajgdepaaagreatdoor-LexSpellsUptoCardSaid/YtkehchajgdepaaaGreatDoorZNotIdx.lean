/-
  Where the first newline byte stands, by strings.IndexAny at the three newline bytes: any text of at most 2^50 bytes.
-/
import Derived.Test.YtkehchajgdepaaaGreatDoorZNotA
import Derived.Laws.Runes
import Derived.Lib.MapLaws
import Derived.Shelf.Small.Utf8
import Derived.Shelf.Strings.Runes
import Derived.Shelf.Strings.AsciiSet
import Derived.Shelf.Strings.IndexAnyAll
import Derived.Deep.QuietTactic
import Derived.BigQuiet
import Derived.WalkMore
import Derived.WalkKit
namespace Go.Proofs.YtkehchajgdepaaaGreatDoor.Not
open Go.RowKit Gly
set_option linter.unusedSimpArgs false
set_option linter.unusedVariables false

theorem ascii_at (x : UInt8) : (0 ≤ Lib.indexByte [10, 12, 13] x) ↔ nl x = true := by
  have h := byte_all (fun x => decide (0 ≤ Lib.indexByte [10, 12, 13] x) == nl x) (by decide +kernel) x
  rw [← beq_iff_eq.1 h, decide_eq_true_iff]
theorem rune_ascii (r : Int) (h0 : 0 ≤ r) (h : r < 128) (w : World) :
    Calls Tryz.prog 92 #[.string ⟨#[10, 12, 13]⟩, .int .i32 r] w fun e w' => e = .returned (.int .i64 (Lib.indexByte [10, 12, 13] r.toNat.toUInt8)) ∧ w = w' :=
  (Any.strings_IndexRune_ascii Tryz.lays152 ⟨#[10, 12, 13]⟩ r w h0 h).mono fun e w' ⟨h1, h2⟩ => ⟨h1, h2.symm⟩

theorem dec_three (p : Nat) (hp : p < 3) : (Utf8.decode ⟨#[10, 12, 13]⟩ p).2 = 1 ∧ (((((Utf8.decode ⟨#[10, 12, 13]⟩ p).1 : Nat) : Int) == 65533) = false) := by
  have h : ∀ k : Fin 3, (Utf8.decode ⟨#[10, 12, 13]⟩ k.val).2 = 1 ∧ (((((Utf8.decode ⟨#[10, 12, 13]⟩ k.val).1 : Nat) : Int) == 65533) = false) := by decide +kernel
  exact h ⟨p, hp⟩

set_option maxRecDepth 1000000 in
set_option maxHeartbeats 4000000 in
theorem rune_bad (w : World) :
    Calls Tryz.prog 92 #[.string ⟨#[10, 12, 13]⟩, .int .i32 65533] w fun e w' => e = .returned (.int .i64 (-1)) ∧ Below w.heap.size w w' := by
  go_enter Tryz.func92, Tryz.ntmps92
  go_wp2_with fail
  obtain ⟨K, hK⟩ : ∃ K : ByteArray, (⟨#[10, 12, 13]⟩ : ByteArray) = K := ⟨_, rfl⟩
  have hKs : K.size = 3 := by rw [← hK]; rfl
  have hd := dec_three
  rw [hK] at hd
  go_loopw [] (fun wr => ∃ p : Nat, wr.heap[w.heap.size]? = some (.stringIter ⟨#[10, 12, 13]⟩ p) ∧ Below w.heap.size w wr ∧ p ≤ 3) (fun wr => 3 - wr.iterPos w.heap.size)
  case atStart => exact ⟨0, World.iter_heap _ _ _, (Below.refl _ _).alloc (Nat.le_refl _) _, by omega⟩
  case round =>
    obtain ⟨p, hit, hbw, hp0⟩ := hrel
    have HIT := Lib.hid hit
    have HBW := Lib.hid hbw
    clear hit hbw
    by_cases hp : p < 3
    · obtain ⟨W2, hnx, it2, hb2, hz3, ho2⟩ := Plc.next_in HIT.out HBW.out (Nat.le_refl _) (show p < (⟨#[10, 12, 13]⟩ : ByteArray).size from hp)
      obtain ⟨h1, h2⟩ := hd p hp
      rw [← hK] at h1 h2
      rw [h1] at it2
      have IT2 := Lib.hid it2
      have HB2 := Lib.hid hb2
      clear it2 hb2 ho2 hz3
      go_wp2_with fail
      go_roundw
      case rel => exact ⟨p + 1, IT2.out, HB2.out, by omega⟩
      case measure => rw [Plc.iterPos_of IT2.out, Plc.iterPos_of HIT.out]; omega
    · have hnx : ∀ ty, (Instr.next (.pointer (some ⟨w.heap.size, 0, none⟩)) true ty).run Tryz.prog wr = .ok (.tuple #[.bool false]) wr := fun ty => Lib.run_next_end_at (P := Tryz.prog) wr w.heap.size ⟨#[10, 12, 13]⟩ p ty HIT.out hp
      go_wp2_with fail
      go_ret
      exact ⟨rfl, HBW.out⟩

theorem thirteen_no (c : UInt8) (h : 128 ≤ c.toNat) : Lib.indexByte [13] c = -1 := by
  have := byte_all (fun c => decide (c.toNat < 128) || decide (Lib.indexByte [13] c = -1)) (by decide +kernel) c
  simp only [Bool.or_eq_true, decide_eq_true_eq] at this
  omega
theorem byte_any (s : ByteArray) (c : Int) (w : World) :
    Calls Tryz.prog 111 #[.string s, .int .u8 c] w fun e w' => e = .returned (.int .i64 (Lib.indexByte s.data.toList c.toNat.toUInt8)) ∧ w' = w :=
  Any.strings_IndexByte Tryz.lays137 s c w

set_option maxRecDepth 1000000 in
set_option maxHeartbeats 8000000 in
theorem rune_far (r : Int) (h128 : 128 ≤ r) (hne : r ≠ 65533) (w : World) :
    Calls Tryz.prog 92 #[.string ⟨#[10, 12, 13]⟩, .int .i32 r] w fun e w' => e = .returned (.int .i64 (-1)) ∧ Below w.heap.size w w' := by
  have c1 := fun W => Any.utf8_ValidRune Tryz.lays119 r W
  have t1 : decide (0 ≤ r) = true := decide_eq_true (by omega)
  have t2 : decide (r < 128) = false := decide_eq_false (by omega)
  have t3 : (r == 65533) = false := beq_eq_false_iff_ne.2 hne
  have C1 : Hid (∀ W : World, Calls Tryz.prog 112 #[.int .i32 r] W fun e w' => e = .returned (.bool (Lib.validRune r)) ∧ W = w') := fun W => (c1 W).mono fun e w' ⟨h1, h2⟩ => ⟨h1, h2.symm⟩
  clear c1
  cases hv : Lib.validRune r with
  | false =>
    rw [hv] at C1
    go_enter Tryz.func92, Tryz.ntmps92
    go_wp2_with fail
    refine (C1.out _).mono ?_
    rintro e w1 ⟨rfl, rfl⟩
    go_wp2_with fail
    go_ret
    exact ⟨rfl, Below.refl _ _⟩
  | true =>
    rw [hv] at C1
    have hcv := fun W => run_convert_int_string (P := Tryz.prog) W 21 9 .i32 r (by rw [Tryz.underlying21]; rfl) Tryz.underlying9
    have hv2 : Utf8.valid r = true := by
      unfold Lib.validRune at hv
      unfold Utf8.valid
      simp only [Bool.and_eq_true, Bool.or_eq_true, Bool.not_eq_true', decide_eq_true_eq, decide_eq_false_iff_not] at hv ⊢
      omega
    obtain ⟨e1, e2, e3⟩ := encode_facts r hv2 h128
    generalize Utf8.encode r = e at *
    obtain ⟨m, hm⟩ : ∃ m, e.size = m + 2 := ⟨e.size - 2, by omega⟩
    have e4 : 128 ≤ (e[m + 1]'(by omega)).toNat := by
      have := e3 (by omega)
      have h2 : e.size - 1 = m + 1 := by omega
      simpa only [h2] using this
    clear hv hv2 e3
    have hm1 : m + 1 < e.size := by omega
    obtain ⟨v, hve⟩ : ∃ v, (e[m + 1]'hm1).toNat = v := ⟨_, rfl⟩
    rw [hve] at e4
    have hvb : (v : Int).toNat.toUInt8.toNat = v := by
      have : v < 256 := by rw [← hve]; exact UInt8.toNat_lt _
      simp
      omega
    have key : ∀ (K : ByteArray), K.size = 3 → (∀ h : 1 < K.size, K[1].toNat = 12) → (∀ h : 2 < K.size, K[2].toNat = 13) → (K.extract 2 3).data.toList = [13] → (K.extract 3 3).data.toList = [] →
        Calls Tryz.prog 92 #[.string K, .int .i32 r] w fun e w' => e = .returned (.int .i64 (-1)) ∧ Below w.heap.size w w' := by
      intro K hKs hK1 hK2 hK3 hK4
      have C2 : Hid (∀ W : World, Calls Tryz.prog 111 #[.string (K.extract 2 3), .int .u8 (v : Int)] W fun e w' => e = .returned (.int .i64 (-1)) ∧ w' = W) := fun W => by
        have := byte_any (K.extract 2 3) v W
        rw [hK3, thirteen_no _ (by rw [hvb]; exact e4)] at this
        exact this
      have C3 : Hid (∀ W : World, Calls Tryz.prog 111 #[.string ByteArray.empty, .int .u8 (v : Int)] W fun e w' => e = .returned (.int .i64 (-1)) ∧ w' = W) := fun W => by
        exact byte_any ByteArray.empty v W
      have b2 : (2 : Int) ≤ (K.size : Int) := by omega
      have b3 : (3 : Int) ≤ (K.size : Int) := by omega
      have n2 : 2 ≤ K.size := by omega
      have n3 : 3 ≤ K.size := by omega
      have wr2 : IntKind.i64.wrap 2 = 2 := rfl
      have wr3 : IntKind.i64.wrap 3 = 3 := rfl
      have k1 := hK1 (by omega)
      have k2 := hK2 (by omega)
      clear hK3 hK4 hvb hK1 hK2
      rcases (show m = 0 ∨ m = 1 ∨ m = 2 by omega) with rfl | rfl | rfl
      · have hsz : (e.size : Int) = 2 := by omega
        have hz : e.size = 2 := by omega
        have x1 : ((12 : Int) != (v : Int)) = true := by rw [bne_iff_ne]; omega
        go_enter Tryz.func92, Tryz.ntmps92
        go_wp2_with fail
        refine (C1.out _).mono ?_
        rintro e w1 ⟨rfl, rfl⟩
        go_wp2_with fail
        go_step3
        go_wp2_with fail
        go_loop [9] (fun i => i = .int .i64 1) (fun _ => 0)
        case atStart => rfl
        case round =>
          obtain rfl := hrel
          go_wp2_with fail
          go_step3
          go_wp2_with fail
          go_quiet (fail)
          go_wp2_with fail
          go_quiet (first | (go_at_call 111; exact (C2.out _).mono fun e w' ⟨h1, h2⟩ => ⟨h1, _, h2⟩))
          go_wp2_with fail
          change bodyPost Tryz.prog Tryz.f92 (fun e w' => e = .returned (.int .i64 (-1)) ∧ Below w.heap.size w w') Exit.ret _ _
          go_ret
          exact ⟨rfl, by first | exact below_drewN (Below.refl _ _) _ | exact below_drewN (below_drewN (Below.refl _ _) _) _⟩
      · have hsz : (e.size : Int) = 3 := by omega
        have hz : e.size = 3 := by omega
        have x1 : ((13 : Int) != (v : Int)) = true := by rw [bne_iff_ne]; omega
        go_enter Tryz.func92, Tryz.ntmps92
        go_wp2_with fail
        refine (C1.out _).mono ?_
        rintro e w1 ⟨rfl, rfl⟩
        go_wp2_with fail
        go_step3
        go_wp2_with fail
        go_loop [9] (fun i => i = .int .i64 2) (fun _ => 0)
        case atStart => rfl
        case round =>
          obtain rfl := hrel
          go_wp2_with fail
          go_step3
          go_wp2_with fail
          go_quiet (fail)
          go_wp2_with fail
          go_quiet (first | (go_at_call 111; exact (C3.out _).mono fun e w' ⟨h1, h2⟩ => ⟨h1, _, h2⟩))
          go_wp2_with fail
          change bodyPost Tryz.prog Tryz.f92 (fun e w' => e = .returned (.int .i64 (-1)) ∧ Below w.heap.size w w') Exit.ret _ _
          go_ret
          exact ⟨rfl, by first | exact below_drewN (Below.refl _ _) _ | exact below_drewN (below_drewN (Below.refl _ _) _) _⟩
      · have hsz : (e.size : Int) = 4 := by omega
        have hz : e.size = 4 := by omega
        go_enter Tryz.func92, Tryz.ntmps92
        go_wp2_with fail
        refine (C1.out _).mono ?_
        rintro e w1 ⟨rfl, rfl⟩
        go_wp2_with fail
        go_step3
        go_wp2_with fail
        go_loop [9] (fun i => i = .int .i64 3) (fun _ => 0)
        case atStart => rfl
        case round =>
          obtain rfl := hrel
          go_wp2_with fail
          go_ret
          exact ⟨rfl, Below.refl _ _⟩
    exact key ⟨#[10, 12, 13]⟩ rfl (fun _ => rfl) (fun _ => rfl) rfl rfl

/-! ### Newlines and runes -/

theorem dec_ascii (s : ByteArray) (p : Nat) (hp : p < s.size) (h : s[p].toNat < 128) : Utf8.decode s p = (s[p].toNat, 1) := by
  have h1 := Lib.decodeL_drop s p
  rw [show s.data.toList.drop p = rest s p from rfl, rest_cons s p hp, Lib.decodeL_N, show (s[p] :: rest s (p + 1)).getD 0 0 = s[p] from rfl, Lib.decodeN_ascii _ _ _ _ _ h] at h1
  exact h1.symm
theorem dec_wide (s : ByteArray) (p : Nat) (hp : p < s.size) (h : 128 ≤ s[p].toNat) : 128 ≤ (Utf8.decode s p).1 := by
  have h1 := Lib.decodeL_drop s p
  rw [show s.data.toList.drop p = rest s p from rfl, rest_cons s p hp, Lib.decodeL_N, show (s[p] :: rest s (p + 1)).getD 0 0 = s[p] from rfl] at h1
  rw [← h1]
  rcases Lib.decodeN_shape (s[p] :: rest s (p + 1)).length s[p].toNat ((s[p] :: rest s (p + 1)).getD 1 0).toNat ((s[p] :: rest s (p + 1)).getD 2 0).toNat ((s[p] :: rest s (p + 1)).getD 3 0).toNat with ⟨c, e⟩ | ⟨p1, p2, p3, cv, e⟩ | ⟨p1, p2, p3, p4, cv, cs, e⟩ | ⟨p1, p2, p3, p4, p5, cv, cw, e⟩ | e
  all_goals rw [e]
  all_goals (dsimp only; omega)
theorem nl_small (b : UInt8) (h : 128 ≤ b.toNat) : nl b = false := by
  cases hb : nl b with
  | false => rfl
  | true =>
    have := (nl_iff b).1 hb
    omega
theorem nl_skip (s : ByteArray) : ∀ (k p : Nat), p + k ≤ s.size → (∀ j (hj : p + j < s.size), j < k → nl s[p + j] = false) → nlEnd (rest s p) = k + nlEnd (rest s (p + k))
  | 0, p, _, _ => by rw [Nat.zero_add]; rfl
  | k + 1, p, hp, h => by
    have h0 := h 0 (by omega) (by omega)
    simp only [Nat.add_zero] at h0
    have ih := nl_skip s k (p + 1) (by omega) (fun j hj hk => by have := h (j + 1) (by omega) (by omega); simpa only [show p + 1 + j = p + (j + 1) by omega] using this)
    rw [rest_cons s p (by omega), nlEnd, if_neg (by rw [h0]; decide), ih, show p + 1 + k = p + (k + 1) by omega]
    omega
theorem nl_rune (s : ByteArray) (p : Nat) (hp : p < s.size) (h : nl s[p] = false) : nlEnd (rest s p) = (Utf8.decode s p).2 + nlEnd (rest s (p + (Utf8.decode s p).2)) := by
  refine nl_skip s _ p (width_fits s p hp) fun j hj hk => ?_
  by_cases h0 : j = 0
  · subst h0
    exact h
  · refine nl_small _ ?_
    have := Plc.rune_inner s p j (by omega) hk
    rw [Plc.bt_in s _ hj] at this
    exact this
/-- What IndexRune answers at a rune of a text: a place just where a newline stands. -/
theorem rune_at (s : ByteArray) (p : Nat) (hp : p < s.size) (w : World) :
    Calls Tryz.prog 92 #[.string ⟨#[10, 12, 13]⟩, .int .i32 (((Utf8.decode s p).1 : Nat) : Int)] w fun e w' => ∃ x : Int, e = .returned (.int .i64 x) ∧ decide (0 ≤ x) = nl s[p] ∧ Below w.heap.size w w' := by
  by_cases h : s[p].toNat < 128
  · rw [dec_ascii s p hp h]
    refine (rune_ascii ((s[p].toNat : Nat) : Int) (by omega) (by omega) w).mono ?_
    rintro e w' ⟨rfl, rfl⟩
    refine ⟨_, rfl, ?_, Below.refl _ _⟩
    have e2 : (((s[p].toNat : Nat) : Int)).toNat.toUInt8 = s[p] := by
      rw [Int.toNat_natCast]
      simp
    rw [e2, Bool.eq_iff_iff, decide_eq_true_iff]
    exact ascii_at s[p]
  · have hw := dec_wide s p hp (by omega)
    rw [nl_small s[p] (by omega)]
    by_cases hb : (Utf8.decode s p).1 = 65533
    · rw [hb]
      refine (rune_bad w).mono ?_
      rintro e w' ⟨rfl, hb⟩
      exact ⟨-1, rfl, rfl, hb⟩
    · refine (rune_far _ (by omega) (by omega) w).mono ?_
      rintro e w' ⟨rfl, hb⟩
      exact ⟨-1, rfl, rfl, hb⟩

/-! ### IndexAny -/

/-- The answer. -/
def idxI (s : ByteArray) : Int := if nlEnd s.data.toList = s.size then -1 else ((nlEnd s.data.toList : Nat) : Int)
theorem idxI_none (s : ByteArray) (h : nlEnd (rest s 0) = s.size) : idxI s = -1 := by
  unfold idxI
  rw [rest_zero] at h
  rw [if_pos h]
theorem idxI_hit (s : ByteArray) (p : Nat) (hp : p < s.size) (h : nlEnd (rest s 0) = p) : idxI s = (p : Int) := by
  unfold idxI
  rw [rest_zero] at h
  rw [if_neg (by omega), h]
theorem use_any (n : Int) (w : World) : Calls Tryz.prog 93 #[.int .i64 n] w fun e w' => e = .returned (.bool (decide (8 < n))) ∧ w = w' :=
  (Any.strings_shouldUseASCIISet Tryz.lays226 n w).mono fun e w' ⟨h1, h2⟩ => ⟨h1, h2.symm⟩

set_option maxRecDepth 1000000 in
set_option maxHeartbeats 8000000 in
theorem idx_short (s : ByteArray) (hs : s.size ≤ 8) (w : World) :
    Calls Tryz.prog 78 #[.string s, .string ⟨#[10, 12, 13]⟩] w fun e w' => e = .returned (.int .i64 (idxI s)) ∧ Below w.heap.size w w' := by
  have C1 : Hid (∀ W : World, Calls Tryz.prog 93 #[.int .i64 (s.size : Int)] W fun e w' => e = .returned (.bool false) ∧ W = w') := fun W => by
    have := use_any (s.size : Int) W
    rw [decide_eq_false (by omega)] at this
    exact this
  obtain ⟨R, hR⟩ : ∃ R, idxI s = R := ⟨_, rfl⟩
  rw [hR]
  have HR := Lib.hid hR
  clear hR
  go_enter Tryz.func78, Tryz.ntmps78
  go_wp2_with fail
  refine (C1.out _).mono ?_
  rintro e w1 ⟨rfl, rfl⟩
  go_wp2_with fail
  go_loopw [] (fun wr => ∃ p : Nat, wr.heap[w.heap.size]? = some (.stringIter s p) ∧ Below w.heap.size w wr ∧ p ≤ s.size ∧ nlEnd (rest s 0) = p + nlEnd (rest s p)) (fun wr => s.size - wr.iterPos w.heap.size)
  case atStart => exact ⟨0, World.iter_heap _ _ _, (Below.refl _ _).alloc (Nat.le_refl _) _, by omega, by omega⟩
  case round =>
    obtain ⟨p, hit, hbw, hp0, hq⟩ := hrel
    have HIT := Lib.hid hit
    have HBW := Lib.hid hbw
    have HQ := Lib.hid hq
    clear hit hbw hq
    by_cases hp : p < s.size
    · obtain ⟨W2, hnx, it2, hb2, hz3, ho2⟩ := Plc.next_in HIT.out HBW.out (Nat.le_refl _) hp
      have IT2 := Lib.hid it2
      have HB2 := Lib.hid hb2
      have HZ := Lib.hid hz3
      clear it2 hb2 ho2 hz3
      have C2 := Lib.hid (rune_at s p hp)
      have hwf := width_fits s p hp
      have hwg := width_ge s p
      have HF := Lib.hid hwf
      have HG := Lib.hid hwg
      have NR := Lib.hid (nl_rune s p hp)
      generalize (Utf8.decode s p).1 = c at *
      generalize (Utf8.decode s p).2 = d at *
      clear hwf hwg
      cases hnl : nl s[p] with
      | true =>
        rw [hnl] at C2
        have hz : Hid (nlEnd (rest s 0) = p) := by
          have := HQ.out
          rw [rest_cons s p hp, nlEnd, if_pos hnl] at this
          exact this
        clear hnl
        go_wp2_with fail
        refine (C2.out _).mono ?_
        rintro e w3 ⟨x, rfl, hx, hb3⟩
        have HB3 := Lib.hid (HB2.out.trans (hb3.mono HB2.out.size))
        clear hb3
        go_wp2_with fail
        go_ret
        rw [← HR.out, idxI_hit s p hp hz.out]
        exact ⟨rfl, HB3.out⟩
      | false =>
        rw [hnl] at C2
        have hz := Lib.hid (NR.out hnl)
        clear hnl
        go_wp2_with fail
        refine (C2.out _).mono ?_
        rintro e w3 ⟨x, rfl, hx, hb3⟩
        have HB3 := Lib.hid (HB2.out.trans (hb3.mono HB2.out.size))
        have IT3 : Hid (w3.heap[w.heap.size]? = some (.stringIter s (p + d))) := (hb3.block _ (lt_of_block IT2.out)).trans IT2.out
        clear hb3
        go_wp2_with fail
        go_roundw
        case rel => exact ⟨p + d, IT3.out, HB3.out, HF.out, by rw [HQ.out, hz.out, Nat.add_assoc]⟩
        case measure => have := HF.out; have := HG.out; rw [Plc.iterPos_of IT3.out, Plc.iterPos_of HIT.out]; omega
    · have hnx : ∀ ty, (Instr.next (.pointer (some ⟨w.heap.size, 0, none⟩)) true ty).run Tryz.prog wr = .ok (.tuple #[.bool false]) wr := fun ty => Lib.run_next_end_at (P := Tryz.prog) wr w.heap.size s p ty HIT.out hp
      have hz : Hid (nlEnd (rest s 0) = s.size) := by
        have := HQ.out
        rw [rest_nil s p (by omega)] at this
        unfold Hid
        rw [this]
        show p + 0 = _
        omega
      go_wp2_with fail
      go_ret
      rw [← HR.out, idxI_none s hz.out]
      exact ⟨rfl, HBW.out⟩

theorem setInfo : (Tryz.prog.info? 95).map (fun i => (i.zero, i.size)) = some (some (.agg (Array.replicate 256 (.bool false))), 256) := by kernel_rfl
theorem in_set (x : UInt8) : ([10, 12, 13] : List UInt8).contains x = nl x := by
  have h := byte_all (fun x => ([10, 12, 13] : List UInt8).contains x == nl x) (by decide +kernel) x
  exact beq_iff_eq.1 h
/-- The set of the three newline bytes, as cells. -/
def setC : Array Value := Lib.setCells [10, 12, 13]
theorem set_any (w : World) : Calls Tryz.prog 94 #[.string ⟨#[10, 12, 13]⟩] w fun e w' => e = .returned (.tuple #[.agg setC, .bool true]) ∧ w' = w.alloc (.cells setC 95) := by
  refine Any.strings_makeASCIISet Tryz.lays227 (zero_of_info setInfo).1 (zero_of_info setInfo).2 ⟨#[10, 12, 13]⟩ w (by decide) ?_
  intro j b hb
  have : ∀ b ∈ ([10, 12, 13] : List UInt8), b.toNat < 128 := by decide
  exact this b (List.mem_of_getElem? hb)
theorem has_any (g : Nat) (x : UInt8) (w : World) (h : w.cell? ⟨g, x.toNat, none⟩ = some (.bool (nl x))) :
    Calls Tryz.prog 95 #[.pointer (some ⟨g, 0, none⟩), .int .u8 ((x.toNat : Nat) : Int)] w fun e w' => e = .returned (.bool (nl x)) ∧ w' = w :=
  Any.asciiSet_contains Tryz.lays228 g x (nl x) w h

set_option maxRecDepth 1000000 in
set_option maxHeartbeats 8000000 in
theorem idx_long (s : ByteArray) (h8 : 8 < s.size) (hs : s.size ≤ 1125899906842624) (w : World) :
    Calls Tryz.prog 78 #[.string s, .string ⟨#[10, 12, 13]⟩] w fun e w' => e = .returned (.int .i64 (idxI s)) ∧ Below w.heap.size w w' := by
  have C1 : Hid (∀ W : World, Calls Tryz.prog 93 #[.int .i64 (s.size : Int)] W fun e w' => e = .returned (.bool true) ∧ W = w') := fun W => by
    have := use_any (s.size : Int) W
    rw [decide_eq_true (by omega)] at this
    exact this
  have hsz : setC.size = 256 := Lib.setCells_size _
  obtain ⟨A, hA⟩ : ∃ A, w.alloc (.cells setC 95) = A := ⟨_, rfl⟩
  have hAs : A.heap.size = w.heap.size + 1 := by rw [← hA, World.size_alloc]
  have hsc : (storeCells ⟨A.heap.size, 0, none⟩ setC.toList 0).run Tryz.prog (A.alloc (.cells Tryz.zeroCells95 95)) = .ok () (A.alloc (.cells setC 95)) := by
    rw [show Tryz.zeroCells95 = Array.replicate 256 (Value.bool false) by kernel_rfl]
    exact run_storeCells_new (P := Tryz.prog) A 95 (Array.replicate 256 (.bool false)) setC (by rw [hsz]; exact (zero_of_info setInfo).2) (by rw [hsz, Array.size_replicate]) (Lib.setCells_one _)
  have hAB : Below w.heap.size w (A.alloc (.cells setC 95)) := by
    rw [← hA]
    exact ((Below.refl _ _).alloc (Nat.le_refl _) _).alloc (by rw [World.size_alloc]; omega) _
  have hc : ∀ x : UInt8, (A.alloc (.cells setC 95)).cell? ⟨A.heap.size, x.toNat, none⟩ = some (.bool (nl x)) := fun x => by
    rw [World.cell?_alloc_at _ _ _ _ (by simp), ← in_set]
    exact Lib.setCells_at _ x
  have HC := Lib.hid hc
  have HAB := Lib.hid hAB
  have HSC := Lib.hid hsc
  obtain ⟨R, hR⟩ : ∃ R, idxI s = R := ⟨_, rfl⟩
  rw [hR]
  have HR := Lib.hid hR
  have C2 := Lib.hid (set_any w)
  rw [hA] at C2
  clear hR hc hAB hA hAs hsc
  go_enter Tryz.func78, Tryz.ntmps78
  go_wp2_with fail
  refine (C1.out _).mono ?_
  rintro e w1 ⟨rfl, rfl⟩
  go_wp2_with fail
  refine C2.out.mono ?_
  rintro e w2 ⟨rfl, rfl⟩
  go_wp2_with fail
  rw [HSC.out]
  simp only [Result.andThen]
  rw [Oper.upon_skip]
  go_wp2_with fail
  go_loopw [8] (fun iv wr => ∃ p : Nat, iv = .int .i64 (p : Int) ∧ wr = w2.alloc (.cells setC 95) ∧ p ≤ s.size ∧ nlEnd (rest s 0) = p + nlEnd (rest s p)) (fun iv _ => s.size - (intOf iv).toNat)
  case atStart => exact ⟨0, rfl, rfl, by omega, by omega⟩
  case round =>
    obtain ⟨p, rfl, rfl, hp0, hq⟩ := hrel
    have HQ := Lib.hid hq
    clear hq
    by_cases hp : p < s.size
    · have C3 := Lib.hid (has_any w2.heap.size s[p] _ (HC.out s[p]))
      cases hnl : nl s[p] with
      | true =>
        rw [hnl] at C3
        have hz : Hid (nlEnd (rest s 0) = p) := by
          have := HQ.out
          rw [rest_cons s p hp, nlEnd, if_pos hnl] at this
          exact this
        clear hnl
        go_wp2_with fail
        refine C3.out.mono ?_
        rintro e w3 ⟨rfl, rfl⟩
        go_wp2_with fail
        go_ret
        rw [← HR.out, idxI_hit s p hp hz.out]
        exact ⟨rfl, HAB.out⟩
      | false =>
        rw [hnl] at C3
        have hz : Hid (nlEnd (rest s p) = nlEnd (rest s (p + 1)) + 1) := by
          unfold Hid
          rw [rest_cons s p hp, nlEnd, if_neg (by rw [hnl]; decide)]
        clear hnl
        go_wp2_with fail
        refine C3.out.mono ?_
        rintro e w3 ⟨rfl, rfl⟩
        go_wp2_with fail
        go_roundw
        case rel => exact ⟨p + 1, by go_num, by first | rfl | trivial, by omega, by rw [HQ.out, hz.out]; omega⟩
        case measure => simp [intOf]; omega
    · obtain rfl : p = s.size := by omega
      have hz : Hid (nlEnd (rest s 0) = s.size) := by
        have := HQ.out
        rw [rest_nil s _ (Nat.le_refl _)] at this
        exact this
      go_wp2_with fail
      go_ret
      rw [← HR.out, idxI_none s hz.out]
      exact ⟨rfl, HAB.out⟩

theorem idx_any (s : ByteArray) (hs : s.size ≤ 1125899906842624) (w : World) :
    Calls Tryz.prog 78 #[.string s, .string ⟨#[10, 12, 13]⟩] w fun e w' => e = .returned (.int .i64 (if nlEnd s.data.toList = s.size then -1 else ((nlEnd s.data.toList : Nat) : Int))) ∧ Below w.heap.size w w' := by
  by_cases h : s.size ≤ 8
  · exact idx_short s h w
  · exact idx_long s (by omega) hs w
end Go.Proofs.YtkehchajgdepaaaGreatDoor.Not
