/-
  The contracts of package number's Value and of the document's own. Condition: the string has at most 2^50 bytes.
-/
import Derived.Test.YtiifjegjmhbhkaaDoorNumRefw
namespace Go.Proofs.YtiifjegjmhbhkaaDoor.Num
open Go.RowKit Gly
set_option linter.unusedSimpArgs false
set_option linter.unusedVariables false

/-- Value's answer. -/
def valueS (L : List UInt8) : Int × Int :=
  if (wholeL L).kind = 11 then (if valOf (wholeL L).base 0 (L.drop (wholeL L).beg) ≤ 4611686018427387904 then ((valOf (wholeL L).base 0 (L.drop (wholeL L).beg) : Int), 0) else (0, 3)) else (0, 40)

theorem too_great (v b d : Nat) (hb : 2 ≤ b) (hb2 : b ≤ 16) (hd : d ≤ 15) : decide ((4611686018427387904 - (d : Int)) / (b : Int) < (v : Int)) = decide (4611686018427387904 < v * b + d) := by
  have e : (4611686018427387904 - (d : Int)) / (b : Int) = ((((4611686018427387904 - d) / b : Nat) : Nat) : Int) := by
    have : (4611686018427387904 - (d : Int)) = ((4611686018427387904 - d : Nat) : Int) := by omega
    rw [this]
    rfl
  rw [e]
  have key : (4611686018427387904 - d) / b < v ↔ 4611686018427387904 - d < v * b := Nat.div_lt_iff_lt_mul (by omega)
  by_cases h : 4611686018427387904 < v * b + d
  · rw [decide_eq_true h, decide_eq_true]
    have := key.2 (by omega)
    omega
  · rw [decide_eq_false h, decide_eq_false]
    intro h2
    have := key.1 (by omega)
    omega

theorem value_int (s : ByteArray) (b g : Nat) (d e f : Int) (hs : s.size ≤ 1125899906842624) (hb : 2 ≤ b) (hb2 : b ≤ 16) (hg : g ≤ s.size) (hall : (rest s g).all (isD b) = true) (r1 r2 : Int) (R : Hid ((r1, r2) = if valOf b 0 (rest s g) ≤ 4611686018427387904 then ((valOf b 0 (rest s g) : Int), 0) else (0, 3)))
    (C0 : Hid (∀ W, Calls Tryd.prog 24 #[.string s] W fun e' w' => e' = .returned (.agg #[.int .i64 11, .int .i64 (b : Int), .int .i64 (g : Int), .int .i64 d, .int .i64 e, .int .i64 f]) ∧ Below W.heap.size W w')) (w : World) :
    Calls Tryd.prog 14 #[.string s] w fun e w' => e = .returned (.tuple #[.int .i64 r1, .int .i64 r2]) ∧ Below w.heap.size w w' := by
  have hz : Hid ((s.extract g s.size).size = s.size - g) := size_tail s g
  obtain ⟨V, hV⟩ : ∃ V, valOf b 0 (rest s g) = V := ⟨_, rfl⟩
  rw [hV] at R
  have HV := Lib.hid hV
  have HALL := Lib.hid hall
  clear hV hall
  go_enter Tryd.func14, Tryd.ntmps14
  go_wp2_with fail
  refine (C0.out _).mono ?_
  rintro e1 w1 ⟨rfl, hb1⟩
  have HB1 := Lib.hid hb1
  clear hb1
  have NW := Six.new w1 11 (b : Int) (g : Int) d e f
  have y0 := NW.c0
  have y1 := NW.c1
  have y2 := NW.c2
  have y9 := NW.lt
  have z1 : ∀ p, ((w1.alloc (.cells #[.int .i64 11, .int .i64 (b : Int), .int .i64 (g : Int), .int .i64 d, .int .i64 e, .int .i64 f] 36)).iter (s.extract g s.size) p).cell? ⟨w1.heap.size, 1, none⟩ = some (.int .i64 (b : Int)) := fun p => by
    have hbl : Below (w1.alloc (.cells #[.int .i64 11, .int .i64 (b : Int), .int .i64 (g : Int), .int .i64 d, .int .i64 e, .int .i64 f] 36)).heap.size _ ((w1.alloc (.cells #[.int .i64 11, .int .i64 (b : Int), .int .i64 (g : Int), .int .i64 d, .int .i64 e, .int .i64 f] 36)).iter (s.extract g s.size) p) := (Below.refl _ _).alloc (Nat.le_refl _) _
    exact (NW.below hbl NW.lt).c1
  have HB2 : Hid (Below w.heap.size w (w1.alloc (.cells #[.int .i64 11, .int .i64 (b : Int), .int .i64 (g : Int), .int .i64 d, .int .i64 e, .int .i64 f] 36))) := HB1.out.alloc HB1.out.size _
  have hsz : Hid ((w1.alloc (.cells #[.int .i64 11, .int .i64 (b : Int), .int .i64 (g : Int), .int .i64 d, .int .i64 e, .int .i64 f] 36)).heap.size = w1.heap.size + 1) := World.size_alloc _ _
  clear NW
  go_wp2_with fail
  generalize (w1.alloc (.cells #[.int .i64 11, .int .i64 (b : Int), .int .i64 (g : Int), .int .i64 d, .int .i64 e, .int .i64 f] 36)) = W2 at *
  have HIT : Hid (∀ p, Below w.heap.size w (W2.iter (s.extract g s.size) p)) := fun p => HB2.out.alloc HB2.out.size _
  clear y0 y1 y2
  go_loopw [5] (fun vv wr => ∃ p v : Nat, wr = W2.iter (s.extract g s.size) p ∧ vv = .int .i64 (v : Int) ∧ valOf b v (rest s (g + p)) = V ∧ g + p ≤ s.size ∧ v ≤ 4611686018427387904 ∧ (rest s (g + p)).all (isD b) = true) (fun _ wr => s.size - wr.iterPos W2.heap.size)
  case atStart => exact ⟨0, 0, rfl, rfl, HV.out, by omega, by omega, HALL.out⟩
  case round =>
    obtain ⟨p, v, rfl, rfl, hq, hf, hv, ha⟩ := hrel
    have HQ := Lib.hid hq
    have HA := Lib.hid ha
    clear hq ha
    have zp := z1 p
    by_cases hp : g + p < s.size
    · have hx := width_fits s (g + p) hp
      have hc := rune_le s (g + p)
      have hnx : ∀ ty, (Instr.next (.pointer (some ⟨w1.heap.size + 1, 0, none⟩)) true ty).run Tryd.prog (W2.iter (s.extract g s.size) p) = .ok (.tuple #[.bool true, .int .i64 (p : Int), .int .i32 (((Utf8.decode s (g + p)).1 : Nat) : Int)]) (W2.iter (s.extract g s.size) (p + (Utf8.decode s (g + p)).2)) := fun ty => by
        have := run_next_any (P := Tryd.prog) W2 (s.extract g s.size) p ty (by rw [hz.out]; omega)
        rw [decode_tail_at, hsz.out] at this
        exact this
      obtain ⟨hd1, hd2⟩ := dig_rune s (g + p) hp b
      have C : Hid (∀ W, Calls Tryd.prog 25 #[.int .i32 (((Utf8.decode s (g + p)).1 : Nat) : Int), .int .i64 (b : Int)] W fun e w' => e = .returned (.int .i64 (dg b s[g + p])) ∧ W = w') := fun W => by have := digit_any (((Utf8.decode s (g + p)).1 : Nat) : Int) b W; rw [hd1] at this; exact this
      have hcons := rest_cons s (g + p) hp
      have hh := HA.out
      have hq := HQ.out
      rw [hcons, List.all_cons, Bool.and_eq_true] at hh
      rw [hcons, valOf] at hq
      have W1 := Lib.hid (hd2 hh.1)
      have HT : Hid ((rest s (g + p + 1)).all (isD b) = true) := hh.2
      have hdd : 0 ≤ dg b s[g + p] := of_decide_eq_true hh.1
      have hbd := dg_bd b s[g + p]
      clear hd1 hd2 hcons hh
      obtain ⟨dd, hdd2⟩ : ∃ dd : Nat, dg b s[g + p] = (dd : Int) := ⟨(dg b s[g + p]).toNat, by omega⟩
      rw [hdd2] at C hq hbd hdd
      rw [Int.toNat_natCast] at hq
      have HQ2 := Lib.hid hq
      have ht := too_great v b dd hb hb2 (by omega)
      have hd15 : dd ≤ 15 := by omega
      have zq := z1 (p + (Utf8.decode s (g + p)).2)
      clear hq hbd hdd hdd2
      by_cases hgreat : 4611686018427387904 < v * b + dd
      · rw [decide_eq_true hgreat] at ht
        have hVg : ¬ V ≤ 4611686018427387904 := by
          have := valOf_ge b (by omega) (rest s (g + p + 1)) (v * b + dd)
          rw [HQ2.out] at this
          omega
        have hR := R.out
        rw [if_neg hVg] at hR
        injection hR with hR1 hR2
        have RR : Hid (r1 = 0 ∧ r2 = 3) := ⟨hR1, hR2⟩
        clear hgreat hVg hR1 hR2
        go_wp2_with (go_at_call 25; refine (C.out _).mono ?_; rintro e w1 ⟨rfl, rfl⟩)
        go_ret2
        rw [RR.out.1, RR.out.2]
        exact ⟨rfl, HIT.out _⟩
      · rw [decide_eq_false hgreat] at ht
        have hm0 : v * b ≤ 4611686018427387904 - dd := by omega
        have hm1 : ((v : Int) * (b : Int)) = ((v * b : Nat) : Int) := (Int.natCast_mul v b).symm
        have hm2 : (v : Int) * (b : Int) ≤ 4611686018427387904 - (dd : Int) := by omega
        have hm3 : 0 ≤ (v : Int) * (b : Int) := by omega
        clear hm0
        have HM := Lib.hid hm1
        clear hm1 hgreat
        go_wp2_with (go_at_call 25; refine (C.out _).mono ?_; rintro e w1 ⟨rfl, rfl⟩)
        go_roundw
        case rel =>
          have e : g + (p + 1) = g + p + 1 := by omega
          have hm := HM.out
          refine ⟨p + (Utf8.decode s (g + p)).2, v * b + dd, rfl, ?_, ?_, by rw [W1.out]; omega, by omega, ?_⟩
          · rw [Int.natCast_add, ← hm]
          · rw [W1.out, e]
            exact HQ2.out
          · rw [W1.out, e]
            exact HT.out
        case measure => rw [W1.out]; simp <;> omega
    · have hnx : ∀ ty, (Instr.next (.pointer (some ⟨w1.heap.size + 1, 0, none⟩)) true ty).run Tryd.prog (W2.iter (s.extract g s.size) p) = .ok (.tuple #[.bool false]) (W2.iter (s.extract g s.size) p) := fun ty => by
        rw [← hsz.out]
        exact run_next_end (P := Tryd.prog) W2 (s.extract g s.size) p ty (by rw [hz.out]; omega)
      have hq := HQ.out
      rw [rest_nil s (g + p) (by omega)] at hq
      have hR := R.out
      rw [← (show v = V from hq), if_pos hv] at hR
      injection hR with hR1 hR2
      have RR : Hid (r1 = (v : Int) ∧ r2 = 0) := ⟨hR1, hR2⟩
      clear hq hR1 hR2
      go_wp2
      go_ret2
      rw [RR.out.1, RR.out.2]
      exact ⟨rfl, HIT.out _⟩

theorem value_none (s : ByteArray) (a b c d e f : Int) (ha : (a != 11) = true)
    (C0 : Hid (∀ W, Calls Tryd.prog 24 #[.string s] W fun e' w' => e' = .returned (.agg #[.int .i64 a, .int .i64 b, .int .i64 c, .int .i64 d, .int .i64 e, .int .i64 f]) ∧ Below W.heap.size W w')) (w : World) :
    Calls Tryd.prog 14 #[.string s] w fun e w' => e = .returned (.tuple #[.int .i64 0, .int .i64 40]) ∧ Below w.heap.size w w' := by
  go_enter Tryd.func14, Tryd.ntmps14
  go_wp2_with fail
  refine (C0.out _).mono ?_
  rintro e1 w1 ⟨rfl, hb1⟩
  have HB1 := Lib.hid hb1
  clear hb1
  have NW := Six.new w1 a b c d e f
  have y0 := NW.c0
  clear NW
  go_wp2_with fail
  go_ret2
  exact ⟨rfl, HB1.out.alloc HB1.out.size _⟩
theorem Value_any (s : ByteArray) (hs : s.size ≤ 1125899906842624) (w : World) :
    Calls Tryd.prog 14 #[.string s] w fun e w' => e = .returned (.tuple #[.int .i64 (valueS s.data.toList).1, .int .i64 (valueS s.data.toList).2]) ∧ Below w.heap.size w w' := by
  have c0 := fun W => whole_any s hs W
  unfold valueS
  by_cases h : (wholeL s.data.toList).kind = 11
  · rw [if_pos h]
    obtain ⟨h1, h2, h3, h4, -⟩ := whole_int s.data.toList h
    rw [← Lib.size_eq] at h3
    unfold nlC at c0
    rw [h] at c0
    exact value_int s _ _ _ _ _ hs (by omega) (by omega) (by omega) h4 _ _ rfl c0 w
  · rw [if_neg h]
    exact value_none s _ _ _ _ _ _ (by rw [bne_iff_ne]; omega) c0 w

theorem refvalue_int (s : ByteArray) (b g : Nat) (hs : s.size ≤ 1125899906842624) (hb : 2 ≤ b) (hb2 : b ≤ 16) (hg : g ≤ s.size) (hall : (rest s g).all (isD b) = true) (r1 r2 : Int) (R : Hid ((r1, r2) = if valOf b 0 (rest s g) ≤ 4611686018427387904 then ((valOf b 0 (rest s g) : Int), 0) else (0, 3)))
    (C0 : Hid (∀ W, Calls Tryd.prog 26 #[.string s, .int .i64 11] W fun e' w' => e' = .returned (.bool true) ∧ W = w'))
    (C1 : Hid (∀ W, Calls Tryd.prog 27 #[.string s] W fun e' w' => e' = .returned (.tuple #[.int .i64 (b : Int), .int .i64 (g : Int)]) ∧ W = w')) (w : World) :
    Calls Tryd.prog 15 #[.string s] w fun e w' => e = .returned (.tuple #[.int .i64 r1, .int .i64 r2]) ∧ w = w' := by
  obtain ⟨V, hV⟩ : ∃ V, valOf b 0 (rest s g) = V := ⟨_, rfl⟩
  rw [hV] at R
  have HV := Lib.hid hV
  have HALL := Lib.hid hall
  clear hV hall
  go_enter Tryd.func15, Tryd.ntmps15
  go_wp2_with (first | (go_at_call 26; refine (C0.out _).mono ?_; rintro e w1 ⟨rfl, rfl⟩) | (go_at_call 27; refine (C1.out _).mono ?_; rintro e w1 ⟨rfl, rfl⟩))
  go_loop [5, 6] (fun i vv => ∃ p v : Nat, i = .int .i64 (p : Int) ∧ vv = .int .i64 (v : Int) ∧ valOf b v (rest s p) = V ∧ p ≤ s.size ∧ v ≤ 4611686018427387904 ∧ (rest s p).all (isD b) = true) (fun i _ => s.size - (intOf i).toNat)
  case atStart => exact ⟨g, 0, rfl, rfl, HV.out, hg, by omega, HALL.out⟩
  case round =>
    obtain ⟨p, v, rfl, rfl, hq, hf, hv, ha⟩ := hrel
    have HQ := Lib.hid hq
    have HA := Lib.hid ha
    clear hq ha
    by_cases hp : p < s.size
    · have hlt := (s[p]).toNat_lt
      have C : Hid (∀ W, Calls Tryd.prog 28 #[.int .i64 (s[p].toNat : Int), .int .i64 (b : Int)] W fun e w' => e = .returned (.int .i64 (dg b s[p])) ∧ W = w') := fun W => refdigit_any ((s[p].toNat : Nat) : Int) b (by omega) (by omega) W
      have hcons := rest_cons s p hp
      have hh := HA.out
      have hq := HQ.out
      rw [hcons, List.all_cons, Bool.and_eq_true] at hh
      rw [hcons, valOf] at hq
      have HT : Hid ((rest s (p + 1)).all (isD b) = true) := hh.2
      have hdd : 0 ≤ dg b s[p] := of_decide_eq_true hh.1
      have hbd := dg_bd b s[p]
      clear hcons hh
      obtain ⟨dd, hdd2⟩ : ∃ dd : Nat, dg b s[p] = (dd : Int) := ⟨(dg b s[p]).toNat, by omega⟩
      rw [hdd2] at C hq hbd hdd
      rw [Int.toNat_natCast] at hq
      have HQ2 := Lib.hid hq
      have ht := too_great v b dd hb hb2 (by omega)
      have hd15 : dd ≤ 15 := by omega
      clear hq hbd hdd hdd2
      by_cases hgreat : 4611686018427387904 < v * b + dd
      · rw [decide_eq_true hgreat] at ht
        have hVg : ¬ V ≤ 4611686018427387904 := by
          have := valOf_ge b (by omega) (rest s (p + 1)) (v * b + dd)
          rw [HQ2.out] at this
          omega
        have hR := R.out
        rw [if_neg hVg] at hR
        injection hR with hR1 hR2
        have RR : Hid (r1 = 0 ∧ r2 = 3) := ⟨hR1, hR2⟩
        clear hgreat hVg hR1 hR2
        go_wp2_with (go_at_call 28; refine (C.out _).mono ?_; rintro e w1 ⟨rfl, rfl⟩)
        go_ret2
        rw [RR.out.1, RR.out.2]
        exact ⟨rfl, rfl⟩
      · rw [decide_eq_false hgreat] at ht
        have hm0 : v * b ≤ 4611686018427387904 - dd := by omega
        have hm1 : ((v : Int) * (b : Int)) = ((v * b : Nat) : Int) := (Int.natCast_mul v b).symm
        have hm2 : (v : Int) * (b : Int) ≤ 4611686018427387904 - (dd : Int) := by omega
        have hm3 : 0 ≤ (v : Int) * (b : Int) := by omega
        clear hm0
        have HM := Lib.hid hm1
        clear hm1 hgreat
        go_wp2_with (go_at_call 28; refine (C.out _).mono ?_; rintro e w1 ⟨rfl, rfl⟩)
        go_round
        case rel =>
          have hm := HM.out
          refine ⟨p + 1, v * b + dd, by go_num, ?_, HQ2.out, by omega, by omega, HT.out⟩
          rw [Int.natCast_add, ← hm]
        case measure => simp [intOf]; omega
    · have h9 : decide ((p : Int) < (s.size : Int)) = false := decide_eq_false (by omega)
      have hq := HQ.out
      rw [rest_nil s p (by omega)] at hq
      have hR := R.out
      rw [← (show v = V from hq), if_pos hv] at hR
      injection hR with hR1 hR2
      have RR : Hid (r1 = (v : Int) ∧ r2 = 0) := ⟨hR1, hR2⟩
      clear hq hR1 hR2
      go_wp2
      go_ret2
      rw [RR.out.1, RR.out.2]
      exact ⟨rfl, rfl⟩
theorem refvalue_none (s : ByteArray) (C0 : Hid (∀ W, Calls Tryd.prog 26 #[.string s, .int .i64 11] W fun e' w' => e' = .returned (.bool false) ∧ W = w')) (w : World) :
    Calls Tryd.prog 15 #[.string s] w fun e w' => e = .returned (.tuple #[.int .i64 0, .int .i64 40]) ∧ w = w' := by
  go_enter Tryd.func15, Tryd.ntmps15
  go_wp2_with (go_at_call 26; refine (C0.out _).mono ?_; rintro e w1 ⟨rfl, rfl⟩)
  go_ret2
  exact ⟨rfl, rfl⟩
theorem refValue_any (s : ByteArray) (hs : s.size ≤ 1125899906842624) (w : World) :
    Calls Tryd.prog 15 #[.string s] w fun e w' => e = .returned (.tuple #[.int .i64 (valueS s.data.toList).1, .int .i64 (valueS s.data.toList).2]) ∧ w = w' := by
  have c0 := fun W => refwhole_any s 11 (.inl rfl) hs W
  unfold valueS
  by_cases h : (wholeL s.data.toList).kind = 11
  · rw [if_pos h]
    rw [decide_eq_true h] at c0
    obtain ⟨h1, h2, h3, h4, h5⟩ := whole_int s.data.toList h
    rw [← Lib.size_eq] at h3
    have c1 := fun W => refparts_any s W
    unfold partsL at c1
    rw [h5] at c1
    exact refvalue_int s _ _ hs (by omega) (by omega) (by omega) h4 _ _ rfl c0 c1 w
  · rw [if_neg h]
    rw [decide_eq_false h] at c0
    exact refvalue_none s c0 w
end Go.Proofs.YtiifjegjmhbhkaaDoor.Num
