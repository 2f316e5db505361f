/-
  The contract of package number's Decimal. Condition: the string has at most 2^50 bytes; the library's table of powers of ten stands.
-/
import Derived.Test.YtiifjegjmhbhkaaDoorNumVal
import Derived.Test.YtiifjegjmhbhkaaDoorNumTxt
import Derived.Test.YtiifjegjmhbhkaaDoorNumFma
import Derived.Lib.OthersKept
import Derived.LoopTactic
import Derived.Laws.RangeAny
import Derived.Deep.RegionHeld3
namespace Go.Proofs.YtiifjegjmhbhkaaDoor.Num
open Go.RowKit Gly
open Go.Lib (decDigits)
set_option linter.unusedSimpArgs false
set_option linter.unusedVariables false

theorem iterPos_of {w : World} {k : Nat} {s : ByteArray} {n : Nat} (h : w.heap[k]? = some (.stringIter s n)) : w.iterPos k = n := by simp [World.iterPos, h]
theorem next_in {w wr : World} {B k : Nat} {s : ByteArray} {p : Nat} (hk : wr.heap[k]? = some (.stringIter s p)) (hB : Below B w wr) (hBk : B ≤ k) (hp : p < s.size) :
    ∃ W2, (∀ ty, (Instr.next (.pointer (some ⟨k, 0, none⟩)) true ty).run Tryd.prog wr = .ok (.tuple #[.bool true, .int .i64 (p : Int), .int .i32 (((Utf8.decode s p).1 : Nat) : Int)]) W2) ∧
      W2.heap[k]? = some (.stringIter s (p + (Utf8.decode s p).2)) ∧ Below B w W2 ∧ W2.heap.size = wr.heap.size ∧ (∀ j, j ≠ k → W2.heap[j]? = wr.heap[j]?) :=
  ⟨wr.iterAt k s (p + (Utf8.decode s p).2), fun ty => Lib.run_next_any_at wr k s p ty hk hp, Lib.iterAt_heap _ _ _ _ _ hk, Lib.below_iterAt hB hBk _ _, Lib.iterAt_size _ _ _ _, fun _ hj => Lib.iterAt_other _ _ _ _ _ hj⟩
theorem Ints.apart {w : World} {B k : Nat} {v : Value} {xs : List Nat} (h : Ints w B v xs) (hk : k < B) : some k ≠ v.ownBlock := fun e => by
  have := (World.ownsRow.lt h k e.symm).1
  omega
theorem Ints.others {w w' : World} {B k : Nat} {v : Value} {xs : List Nat} (h : Ints w B v xs) (hk : k < B) (ho : ∀ j, j ≠ k → w'.heap[j]? = w.heap[j]?) : Ints w' B v xs := by
  refine ⟨h.1, ?_⟩
  rcases h.2 with hn | ⟨g, cap, cur, rfl, hb, hg, rest⟩
  · exact .inl hn
  · refine .inr ⟨g, cap, cur, rfl, hb, ?_, rest⟩
    rw [ho g (by omega)]
    exact hg
theorem after_fol {w W w2 : World} {B H : Nat} {v : Value} {xs : List Nat} {s : ByteArray} {p i : Nat} {a b c d e f : Int} (own : Ints W B v xs) (hB : w.heap.size ≤ B) (hi : i < B) (hH : H < B) (gr : W.grownBy w2 v.ownBlock) (it : W.heap[i]? = some (.stringIter s p)) (sx : Six W H a b c d e f) (hb : Below w.heap.size w W) :
    w2.heap[i]? = some (.stringIter s p) ∧ Six w2 H a b c d e f ∧ Below w.heap.size w w2 :=
  ⟨(gr.block i (lt_of_block it) (own.apart hi)).trans it, (gr.block H sx.lt (own.apart hH)).trans sx, hb.grown gr hb.size (fun k hk => Nat.le_trans hB (World.ownsRow.lt own k hk).1)⟩

set_option maxHeartbeats 1000000 in
theorem dec_int (s : ByteArray) (b g : Nat) (d e f : Int) (hs : s.size ≤ 1000) (hb : 2 ≤ b) (hb2 : b ≤ 16) (hg : g ≤ s.size) (hall : (rest s g).all (isD b) = true)
    (C0 : Hid (∀ W, Calls Tryd.prog 24 #[.string s] W fun e' w' => e' = .returned (.agg #[.int .i64 11, .int .i64 (b : Int), .int .i64 (g : Int), .int .i64 d, .int .i64 e, .int .i64 f]) ∧ Below W.heap.size W w')) (w : World) (ht : Tab w) :
    Calls Tryd.prog 16 #[.string s] w fun e w' => e = .returned (.tuple #[.string ⟨(decDigits (valOf b 0 (rest s g))).toArray⟩, .int .i64 0]) ∧ Below w.heap.size w w' := by
  obtain ⟨V, hV⟩ : ∃ V, valOf b 0 (rest s g) = V := ⟨_, rfl⟩
  rw [hV]
  have hsr : rest (s.extract g s.size) 0 = rest s g := sub_rest s g 0
  rw [← hsr] at hV hall
  have hz : (s.extract g s.size).size ≤ 1000 := by rw [size_tail]; omega
  have HV := Lib.hid hV
  have HALL := Lib.hid hall
  have HT := Lib.hid ht
  have HZ := Lib.hid hz
  have hlong : decide ((1000 : Int) < (s.size : Int)) = false := decide_eq_false (by omega)
  clear hV hall ht hsr hz
  go_enter Tryd.func16, Tryd.ntmps16
  go_wp2_with fail
  refine (C0.out _).mono ?_
  rintro e1 w1 ⟨rfl, hb1⟩
  have HB1 := Lib.hid hb1
  clear hb1
  have NW := Six.new w1 11 (b : Int) (g : Int) d e f
  have y0 := NW.c0
  have y1 := NW.c1
  have y2 := NW.c2
  have SX := Lib.hid NW
  have HB2 : Hid (Below w.heap.size w (w1.alloc (.cells #[.int .i64 11, .int .i64 (b : Int), .int .i64 (g : Int), .int .i64 d, .int .i64 e, .int .i64 f] 36))) := HB1.out.alloc HB1.out.size _
  have hsz : Hid ((w1.alloc (.cells #[.int .i64 11, .int .i64 (b : Int), .int .i64 (g : Int), .int .i64 d, .int .i64 e, .int .i64 f] 36)).heap.size = w1.heap.size + 1) := World.size_alloc _ _
  clear NW
  go_wp2_with fail
  generalize s.extract g s.size = t at *
  generalize (w1.alloc (.cells #[.int .i64 11, .int .i64 (b : Int), .int .i64 (g : Int), .int .i64 d, .int .i64 e, .int .i64 f] 36)) = W2 at *
  clear y0 y1 y2
  have hBk : Hid (w.heap.size ≤ w1.heap.size) := HB1.out.size
  go_loopw [5] (fun v wr => ∃ (p : Nat) (xs : List Nat), Ints wr (w1.heap.size + 2) v xs ∧ wr.heap[w1.heap.size + 1]? = some (.stringIter t p) ∧ Six wr w1.heap.size 11 (b : Int) (g : Int) d e f ∧ Below w.heap.size w wr ∧ okL xs ∧ xs.length ≤ p ∧
      valOf b (lv xs) (rest t p) = V ∧ p ≤ t.size ∧ (rest t p).all (isD b) = true) (fun _ wr => t.size - wr.iterPos (w1.heap.size + 1))
  case atStart =>
    have hb3 : Below W2.heap.size W2 (W2.iter t 0) := (Below.refl _ _).alloc (Nat.le_refl _) _
    have it := World.iter_heap W2 t 0
    rw [hsz.out] at it
    exact ⟨0, [], World.ownsRow_nil _ _ _ _, it, SX.out.below hb3 SX.out.lt, HB2.out.trans (hb3.mono HB2.out.size), ⟨by simp, by simp⟩, Nat.le_refl _, HV.out, Nat.zero_le _, HALL.out⟩
  case round =>
    obtain ⟨p, xs, hown, hit, hsx, hbw, hok, hlen, hq, hp0, ha⟩ := hrel
    have OWN := Lib.hid hown
    have IT := Lib.hid hit
    have SX2 := Lib.hid hsx
    have BW := Lib.hid hbw
    have OK := Lib.hid hok
    have HQ := Lib.hid hq
    have HA := Lib.hid ha
    clear hown hit hsx hbw hok hq ha
    have hzt := HZ.out
    by_cases hp : p < t.size
    · obtain ⟨WN, hnx, it3, hb3, hz3, ho3⟩ := next_in IT.out BW.out (by have := hBk.out; omega) hp
      have hx := width_fits t p hp
      have hc := rune_le t p
      obtain ⟨hd1, hd2⟩ := dig_rune t p hp b
      have C : Hid (∀ W, Calls Tryd.prog 25 #[.int .i32 (((Utf8.decode t p).1 : Nat) : Int), .int .i64 (b : Int)] W fun e w' => e = .returned (.int .i64 (dg b t[p])) ∧ W = w') := fun W => by have := digit_any (((Utf8.decode t p).1 : Nat) : Int) b W; rw [hd1] at this; exact this
      have hcons := rest_cons t p hp
      have hh := HA.out
      have hq := HQ.out
      rw [hcons, List.all_cons, Bool.and_eq_true] at hh
      rw [hcons, valOf] at hq
      have W1 := Lib.hid (hd2 hh.1)
      have HTl : Hid ((rest t (p + 1)).all (isD b) = true) := hh.2
      have hdd : 0 ≤ dg b t[p] := of_decide_eq_true hh.1
      have hbd := dg_bd b t[p]
      clear hd1 hd2 hcons hh
      obtain ⟨dd, hdd2⟩ : ∃ dd : Nat, dg b t[p] = (dd : Int) := ⟨(dg b t[p]).toNat, by omega⟩
      rw [hdd2] at C hq hbd hdd
      rw [Int.toNat_natCast] at hq
      have hd15 : dd ≤ 15 := by omega
      have HQ2 : Hid (valOf b (lv (ma b dd xs)) (rest t (p + 1)) = V) := by unfold Hid; rw [lv_ma]; exact hq
      have OK2 := Lib.hid (ma_ok b (by omega) hb2 xs dd hd15 OK.out)
      have LEN2 := Lib.hid (ma_len b xs dd)
      clear hq hbd hdd hdd2
      have IT3 := Lib.hid it3
      have BW3 := Lib.hid hb3
      have OWN3 : Hid (Ints WN (w1.heap.size + 2) u5 xs) := OWN.out.others (by omega) ho3
      have SX3 : Hid (Six WN w1.heap.size 11 (b : Int) (g : Int) d e f) := (ho3 _ (by omega)).trans SX2.out
      have hB : Hid (w1.heap.size + 2 ≤ WN.heap.size) := by have := lt_of_block IT3.out; unfold Hid; omega
      clear it3 hb3 hz3 ho3
      have z1 := SX3.out.c1
      have F : Hid (Calls Tryd.prog 29 #[u5, .int .i64 (b : Int), .int .i64 (dd : Int)] WN.drew fun e w' => ∃ v', e = .returned v' ∧ Ints w' (w1.heap.size + 2) v' (ma b dd xs) ∧ WN.drew.grownBy w' u5.ownBlock) :=
        followed_any _ _ _ _ _ (by omega) hb2 hd15 OK.out.1 (by omega) WN.drew hB.out OWN3.out.drew
      go_wp2_with fail
      go_region_with (first | (go_at_call 25; refine (C.out _).mono ?_; rintro e w1 ⟨rfl, rfl⟩) | (go_at_call 29; refine F.out.mono ?_; rintro e w2 ⟨v2, rfl, own2, gr2⟩; have OWN4 := Lib.hid own2; have GR4 := Lib.hid gr2; clear own2 gr2))
      all_goals (obtain ⟨q1, q2, q3⟩ := after_fol (w := w) OWN3.out.drew (by have := hBk.out; omega) (by omega) (by omega) GR4.out IT3.out SX3.out (below_drewN BW3.out 1))
      all_goals (have Q1 := Lib.hid q1; have Q2 := Lib.hid q2; have Q3 := Lib.hid q3; clear q1 q2 q3)
      all_goals simp only [Act.put, List.getElem_toArray, List.getElem_cons_succ, List.getElem_cons_zero, List.setIfInBounds_toArray, List.set_cons_zero, List.set_cons_succ]
      all_goals go_wp2_with fail
      all_goals go_roundw
      all_goals first
        | exact ⟨p + (Utf8.decode t p).2, ma b dd xs, OWN4.out, Q1.out, Q2.out, Q3.out, OK2.out, by rw [W1.out]; have := LEN2.out; omega, by rw [W1.out]; exact HQ2.out, hx, by rw [W1.out]; exact HTl.out⟩
        | (rw [iterPos_of Q1.out, iterPos_of IT.out, W1.out]; omega)
    · have hnx : ∀ ty, (Instr.next (.pointer (some ⟨w1.heap.size + 1, 0, none⟩)) true ty).run Tryd.prog wr = .ok (.tuple #[.bool false]) wr := fun ty => Lib.run_next_end_at (P := Tryd.prog) wr (w1.heap.size + 1) t p ty IT.out hp
      have hq := HQ.out
      rw [rest_nil t p (by omega)] at hq
      have TX := text_any (w1.heap.size + 2) u5 xs OK.out.1 (by omega) wr (HT.out.below BW.out (Nat.le_refl _)) OWN.out
      rw [text_dec xs OK.out, show lv xs = V from hq] at TX
      have TH := Lib.hid TX
      clear TX hq
      go_wp2_with fail
      refine TH.out.mono ?_
      rintro e W5 ⟨rfl, bb5⟩
      have BL5 := Lib.hid (BW.out.trans (bb5.mono BW.out.size))
      clear bb5
      go_wp2_with fail
      go_ret2
      exact ⟨rfl, BL5.out⟩
theorem dec_long (s : ByteArray) (b c d e f : Int) (hs : 1000 < s.size)
    (C0 : Hid (∀ W, Calls Tryd.prog 24 #[.string s] W fun e' w' => e' = .returned (.agg #[.int .i64 11, .int .i64 b, .int .i64 c, .int .i64 d, .int .i64 e, .int .i64 f]) ∧ Below W.heap.size W w')) (w : World) :
    Calls Tryd.prog 16 #[.string s] w fun e w' => e = .returned (.tuple #[.string ⟨#[]⟩, .int .i64 3]) ∧ Below w.heap.size w w' := by
  have hlong : decide ((1000 : Int) < (s.size : Int)) = true := decide_eq_true (by omega)
  go_enter Tryd.func16, Tryd.ntmps16
  go_wp2_with fail
  refine (C0.out _).mono ?_
  rintro e1 w1 ⟨rfl, hb1⟩
  have HB1 := Lib.hid hb1
  clear hb1
  have NW := Six.new w1 11 b c d e f
  have y0 := NW.c0
  clear NW
  go_wp2_with fail
  go_ret2
  exact ⟨rfl, HB1.out.alloc HB1.out.size _⟩
theorem dec_none (s : ByteArray) (a b c d e f : Int) (ha : (a != 11) = true)
    (C0 : Hid (∀ W, Calls Tryd.prog 24 #[.string s] W fun e' w' => e' = .returned (.agg #[.int .i64 a, .int .i64 b, .int .i64 c, .int .i64 d, .int .i64 e, .int .i64 f]) ∧ Below W.heap.size W w')) (w : World) :
    Calls Tryd.prog 16 #[.string s] w fun e w' => e = .returned (.tuple #[.string ⟨#[]⟩, .int .i64 40]) ∧ Below w.heap.size w w' := by
  go_enter Tryd.func16, Tryd.ntmps16
  go_wp2_with fail
  refine (C0.out _).mono ?_
  rintro e1 w1 ⟨rfl, hb1⟩
  have HB1 := Lib.hid hb1
  clear hb1
  have NW := Six.new w1 a b c d e f
  have y0 := NW.c0
  clear NW
  go_wp2_with fail
  go_ret2
  exact ⟨rfl, HB1.out.alloc HB1.out.size _⟩
theorem Decimal_any (s : ByteArray) (hs : s.size ≤ 1125899906842624) (w : World) (ht : Tab w) :
    Calls Tryd.prog 16 #[.string s] w fun e w' => e = .returned (.tuple #[.string ⟨(decS s.data.toList).1.toArray⟩, .int .i64 (decS s.data.toList).2]) ∧ Below w.heap.size w w' := by
  have c0 := fun W => whole_any s hs W
  unfold decS
  by_cases h : (wholeL s.data.toList).kind = 11
  · rw [if_pos h, ← Lib.size_eq]
    unfold nlC at c0
    rw [h] at c0
    by_cases hl : 1000 < s.size
    · rw [if_pos hl]
      exact dec_long s _ _ _ _ _ hl c0 w
    · rw [if_neg hl]
      obtain ⟨h1, h2, h3, h4, -⟩ := whole_int s.data.toList h
      rw [← Lib.size_eq] at h3
      exact dec_int s _ _ _ _ _ (by omega) (by omega) (by omega) (by omega) h4 c0 w ht
  · rw [if_neg h]
    exact dec_none s _ _ _ _ _ _ (by rw [bne_iff_ne]; omega) c0 w
end Go.Proofs.YtiifjegjmhbhkaaDoor.Num
