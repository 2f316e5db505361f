/-
  The walk of the statement PlaceStays. Condition: the string has at most 2^37 bytes.
-/
import Derived.Test.YtckailpeedfajaaDoorPlcSpf
import Derived.Test.YtckailpeedfajaaDoorPlcStay
namespace Go.Proofs.YtckailpeedfajaaDoor.Plc
open Go.RowKit Gly
set_option linter.unusedSimpArgs false

set_option maxHeartbeats 1000000 in
theorem stays_walk (a0 : ByteArray) (w0 : a0.size ≤ 137438953472) (w : World) :
    Calls Tryd.prog 7 #[.string a0] w fun e w' => e = .returned (.bool true) ∧ Below w.heap.size w w' := by
  obtain ⟨t, ht⟩ : ∃ t, (⟨(sprL a0).toArray⟩ : ByteArray) = t := ⟨_, rfl⟩
  have hlen : t.size ≤ 1099511627776 := by
    have := sprL_len a0
    rw [← ht, Lib.size_eq]
    show (sprL a0).length ≤ _
    omega
  have hnt := spread_notab a0
  obtain ⟨hs1, hs2⟩ := spread_stays a0
  have hback : (⟨(sprL t).toArray⟩ : ByteArray) = t := by rw [← ht, hs2]
  rw [ht] at hnt hs1
  have c1 := fun W => spread_any a0 (by omega) W
  rw [ht] at c1
  have c2 := fun W => of_any a0 (a0.size : Int) (by omega) W
  have e2 : ofI a0 (a0.size : Int) = ((spot a0 1 a0.size).1, (spot a0 1 a0.size).2, 0) := by unfold ofI; rw [if_neg (by omega), Int.toNat_natCast]
  have c3 := fun W => of_any t (t.size : Int) (by omega) W
  have e3 : ofI t (t.size : Int) = ((spot a0 1 a0.size).1, (spot a0 1 a0.size).2, 0) := by unfold ofI; rw [if_neg (by omega), Int.toNat_natCast, hs1]
  rw [e2] at c2
  rw [e3] at c3
  have c4 := fun W => spread_any t hlen W
  rw [hback] at c4
  clear e2 e3 hs1 hs2 hback ht
  generalize spot a0 1 a0.size = x at c2 c3
  obtain ⟨xl, xc⟩ := x
  have C1 := Lib.hid c1
  have C2 := Lib.hid c2
  have C3 := Lib.hid c3
  have C4 := Lib.hid c4
  have HNT := Lib.hid hnt
  clear c1 c2 c3 c4 hnt
  go_enter Tryd.func7, Tryd.ntmps7
  go_wp2_with fail
  refine (awake_any _).mono ?_
  rintro e w1 ⟨rfl, hb1⟩
  have HB1 := Lib.hid hb1
  clear hb1
  go_wp2_with fail
  refine (C1.out _).mono ?_
  rintro e w2 ⟨rfl, hb2⟩
  have HB2 := Lib.hid hb2
  clear hb2
  go_wp2_with fail
  go_loop [5] (fun i => ∃ n : Nat, i = .int .i64 (n : Int) ∧ n ≤ t.size) (fun i => t.size - (intOf i).toNat)
  case atStart => exact ⟨0, rfl, Nat.zero_le _⟩
  case round =>
    obtain ⟨n, rfl, hn⟩ := hrel
    by_cases hp : n < t.size
    · have h9 := HNT.out n hp
      rw [bt_in t n hp] at h9
      go_wp2_with fail
      go_round
      case rel => exact ⟨n + 1, by go_num, by omega⟩
      case measure => simp [intOf]; omega
    · go_wp2_with fail
      refine (C2.out _).mono ?_
      rintro e w3 ⟨rfl, hb3⟩
      have HB3 := Lib.hid hb3
      clear hb3
      go_wp2_with fail
      refine (C3.out _).mono ?_
      rintro e w4 ⟨rfl, hb4⟩
      have HB4 := Lib.hid hb4
      clear hb4
      go_wp2_with fail
      refine (C4.out _).mono ?_
      rintro e w5 ⟨rfl, hb5⟩
      have HB5 := Lib.hid hb5
      clear hb5
      go_wp2_with fail
      go_ret
      have s1 := HB1.out.size
      have s2 := HB2.out.size
      have s3 := HB3.out.size
      have s4 := HB4.out.size
      exact ⟨by first | rfl | simp, HB1.out.trans ((HB2.out.mono s1).trans ((HB3.out.mono (Nat.le_trans s1 s2)).trans ((HB4.out.mono (Nat.le_trans s1 (Nat.le_trans s2 s3))).trans (HB5.out.mono (Nat.le_trans s1 (Nat.le_trans s2 (Nat.le_trans s3 s4)))))))⟩
end Go.Proofs.YtckailpeedfajaaDoor.Plc
