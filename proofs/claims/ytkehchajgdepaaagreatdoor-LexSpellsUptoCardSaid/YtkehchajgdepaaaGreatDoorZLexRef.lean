/-
  The contracts of the document's own blanks, runes, lexeme and Counts for the lexer. Condition: the string has at most 2^43 bytes.
-/
import Derived.Test.YtkehchajgdepaaaGreatDoorZMthB
import Derived.Test.YtkehchajgdepaaaGreatDoorZRefA
import Derived.Test.YtkehchajgdepaaaGreatDoorZNumRefs
import Derived.Test.YtkehchajgdepaaaGreatDoorZWrdB
import Derived.Test.YtkehchajgdepaaaGreatDoorZQtF
import Derived.Test.YtkehchajgdepaaaGreatDoorZNotB
import Derived.Test.YtkehchajgdepaaaGreatDoorZGlyNx
import Derived.LoopTactic
import Derived.Laws.RangeAny
namespace Go.Proofs.YtkehchajgdepaaaGreatDoor.Lx
open Go.RowKit Gly
open Wrd (rn wd)
set_option linter.unusedSimpArgs false
set_option linter.unusedVariables false

theorem blanks_at (s : ByteArray) (p : Nat) (hp : p < s.size) :
    (classI (((Utf8.decode s p).1 : Nat) : Int) = 1 → skp s p = skp s (p + (Utf8.decode s p).2)) ∧ (classI (((Utf8.decode s p).1 : Nat) : Int) ≠ 1 → skp s p = p) := by
  have hb : Qt.blkP (rn (rest s p)) = (classI (((Utf8.decode s p).1 : Nat) : Int) == 1) := by
    rw [rn_rest]
    rfl
  unfold skp
  constructor
  · intro h
    rw [Wrd.run_step Qt.blkP _ (rest_ne s p hp) (by rw [hb, h]; rfl), wd_rest, rest_drop]
    omega
  · intro h
    rw [blanks_none _ (by rw [hb]; exact beq_eq_false_iff_ne.2 h)]
    omega
theorem refblanks_any (s : ByteArray) (n : Nat) (hs : s.size ≤ 1125899906842624) (hn : n ≤ s.size) (w : World) :
    Calls Tryz.prog 21 #[.string s, .int .i64 (n : Int)] w fun e w' => e = .returned (.int .i64 ((skp s n : Nat) : Int)) ∧ w = w' := by
  go_enter Tryz.func21, Tryz.ntmps21
  go_wp2
  go_loop [1] (fun i => ∃ (p : Nat), i = .int .i64 (p : Int) ∧ p ≤ s.size ∧ skp s p = skp s n) (fun i => s.size - (intOf i).toNat)
  case atStart => exact ⟨n, rfl, hn, rfl⟩
  case round =>
    obtain ⟨p, rfl, hp0, hq⟩ := hrel
    have HQ := Lib.hid hq
    clear hq
    by_cases hp : p < s.size
    · have c1 := fun W => refnext_any s p hs W
      rw [runeAt_in s p hp] at c1
      dsimp only at c1
      have hw := width_ge s p
      have hx := width_fits s p hp
      obtain ⟨e1, e2⟩ := blanks_at s p hp
      generalize (Utf8.decode s p).2 = d at *
      generalize (((Utf8.decode s p).1 : Nat) : Int) = c at *
      have c2 := fun W => refclass_any c W
      generalize classI c = k at *
      have C1 := Lib.hid c1
      have C2 := Lib.hid c2
      have E1 := Lib.hid e1
      have E2 := Lib.hid e2
      clear c1 c2 e1 e2
      by_cases h : k = 1
      · have b3 : (k != 1) = false := by rw [bne_eq_false_iff_eq]; exact h
        have HK := Lib.hid h
        clear h
        go_wp2_with fail
        refine (C1.out _).mono ?_
        rintro e w1 ⟨rfl, rfl⟩
        go_wp2_with fail
        refine (C2.out _).mono ?_
        rintro e w1 ⟨rfl, rfl⟩
        go_wp2_with fail
        go_round
        case rel => exact ⟨p + d, by go_num, by omega, by rw [← HQ.out, E1.out HK.out]⟩
        case measure => simp [intOf]; omega
      · have b3 : (k != 1) = true := by rw [bne_iff_ne]; exact h
        have HK := Lib.hid h
        clear h
        go_wp2_with fail
        refine (C1.out _).mono ?_
        rintro e w1 ⟨rfl, rfl⟩
        go_wp2_with fail
        refine (C2.out _).mono ?_
        rintro e w1 ⟨rfl, rfl⟩
        go_wp2_with fail
        go_ret
        refine ⟨?_, rfl⟩
        rw [← HQ.out, E2.out HK.out]
        rfl
    · go_wp2_with fail
      go_ret
      obtain rfl : p = s.size := by omega
      refine ⟨?_, rfl⟩
      have : skp s s.size = s.size := by
        have := skp_le s s.size (Nat.le_refl _)
        have := skp_ge s s.size
        omega
      rw [← HQ.out, this]
      rfl

theorem check_no (s : ByteArray) (h : ¬ checkN s < s.size) : checkE s = 0 := by unfold checkE; rw [if_neg h]
theorem check_yes (s : ByteArray) (h : checkN s < s.size) : checkE s = 10 := by unfold checkE; rw [if_pos h]
theorem refrunes_any (s : ByteArray) (hs : s.size ≤ 1125899906842624) (w : World) :
    Calls Tryz.prog 20 #[.string s] w fun e w' => e = .returned (.tuple #[.int .i64 ((runesN s : Nat) : Int), .int .i64 (runesE s)]) ∧ w = w' := by
  have C0 := Lib.hid (fun W => refcheck_any s hs W)
  by_cases h1 : 16777216 < s.size
  · have hr : Hid (runesN s = 0 ∧ runesE s = 3) := ⟨by unfold runesN; rw [if_pos h1], by unfold runesE; rw [if_pos h1]⟩
    go_enter Tryz.func20, Tryz.ntmps20
    go_wp2
    go_ret2
    exact ⟨by rw [hr.out.1, hr.out.2]; rfl, rfl⟩
  by_cases h2 : checkN s < s.size
  · have hr : Hid (runesN s = checkN s ∧ runesE s = 10) := ⟨by unfold runesN; rw [if_neg h1, if_pos h2], by unfold runesE; rw [if_neg h1, if_pos h2]⟩
    have e0 := check_yes s h2
    have C1 : Hid (∀ W, Calls Tryz.prog 36 #[.string s] W fun e w' => e = .returned (.tuple #[.int .i64 ((checkN s : Nat) : Int), .int .i64 10]) ∧ W = w') := fun W => by
      have := C0.out W
      rw [e0] at this
      exact this
    clear C0 e0 h2
    generalize checkN s = k at *
    go_enter Tryz.func20, Tryz.ntmps20
    go_wp2_with fail
    refine (C1.out _).mono ?_
    rintro e w1 ⟨rfl, rfl⟩
    go_wp2_with fail
    go_ret2
    exact ⟨by rw [hr.out.1, hr.out.2]; rfl, rfl⟩
  · have hr : Hid ((noN s < s.size → runesN s = noN s ∧ runesE s = 70) ∧ (¬ noN s < s.size → runesN s = 0 ∧ runesE s = 0)) := by
      refine ⟨fun h => ⟨?_, ?_⟩, fun h => ⟨?_, ?_⟩⟩
      · unfold runesN; rw [if_neg h1, if_neg h2, if_pos h]
      · unfold runesE; rw [if_neg h1, if_neg h2, if_pos h]
      · unfold runesN; rw [if_neg h1, if_neg h2, if_neg h]
      · unfold runesE; rw [if_neg h1, if_neg h2, if_neg h]
    have e0 := check_no s h2
    have C1 : Hid (∀ W, Calls Tryz.prog 36 #[.string s] W fun e w' => e = .returned (.tuple #[.int .i64 ((checkN s : Nat) : Int), .int .i64 0]) ∧ W = w') := fun W => by
      have := C0.out W
      rw [e0] at this
      exact this
    clear C0 e0 h2
    generalize checkN s = kk at *
    go_enter Tryz.func20, Tryz.ntmps20
    go_wp2_with fail
    refine (C1.out _).mono ?_
    rintro e w1 ⟨rfl, rfl⟩
    go_wp2_with fail
    go_loop [6] (fun i => ∃ (p f : Nat), i = .int .i64 (p : Int) ∧ p ≤ s.size ∧ firstNo s f p = noN s ∧ s.size ≤ p + f) (fun i => s.size - (intOf i).toNat)
    case atStart => exact ⟨0, s.size, rfl, by omega, rfl, by omega⟩
    case round =>
      obtain ⟨p, f, rfl, hp0, hq, hf⟩ := hrel
      have HQ := Lib.hid hq
      clear hq
      by_cases hp : p < s.size
      · have c1 := fun W => refnext_any s p hs W
        rw [runeAt_in s p hp] at c1
        dsimp only at c1
        have hw := width_ge s p
        have hx := width_fits s p hp
        have e1 := firstNo_stop s f p hp hf
        have e2 := firstNo_go s f p hp hf
        generalize (Utf8.decode s p).2 = d at *
        generalize (((Utf8.decode s p).1 : Nat) : Int) = c at *
        have c2 := fun W => refclass_any c W
        generalize classI c = k at *
        have C2 := Lib.hid c1
        have C3 := Lib.hid c2
        have E1 := Lib.hid e1
        have E2 := Lib.hid e2
        clear c1 c2 e1 e2
        by_cases h : k = 0
        · have b3 : (k == 0) = true := by rw [beq_iff_eq]; exact h
          have HK := Lib.hid h
          clear h
          go_wp2_with fail
          refine (C2.out _).mono ?_
          rintro e w1 ⟨rfl, rfl⟩
          go_wp2_with fail
          refine (C3.out _).mono ?_
          rintro e w1 ⟨rfl, rfl⟩
          go_wp2_with fail
          go_ret2
          have hn : noN s = p := by rw [← HQ.out, E1.out HK.out]
          obtain ⟨r1, r2⟩ := hr.out.1 (by omega)
          exact ⟨by rw [r1, r2, hn]; rfl, rfl⟩
        · have b3 : (k == 0) = false := by rw [beq_eq_false_iff_ne]; exact h
          have HK := Lib.hid h
          clear h
          go_wp2_with fail
          refine (C2.out _).mono ?_
          rintro e w1 ⟨rfl, rfl⟩
          go_wp2_with fail
          refine (C3.out _).mono ?_
          rintro e w1 ⟨rfl, rfl⟩
          go_wp2_with fail
          go_round
          case rel => exact ⟨p + d, f - 1, by go_num, by omega, by rw [← HQ.out, E2.out HK.out], by omega⟩
          case measure => simp [intOf]; omega
      · go_wp2_with fail
        go_ret2
        have hn : ¬ noN s < s.size := by rw [← HQ.out, firstNo_end s f p hp]; omega
        obtain ⟨r1, r2⟩ := hr.out.2 hn
        exact ⟨by rw [r1, r2]; rfl, rfl⟩

/-! ### Lexemes -/

/-- The lexeme at a byte: its kind, where it ends (or where the error is), the error. -/
def lexI (s : ByteArray) (j : Nat) : Int × Nat × Int := ((lexL (rest s j)).1, j + (lexL (rest s j)).2.1, (lexL (rest s j)).2.2)
theorem num_at (s : ByteArray) (j : Nat) (hj : j < s.size) : Num.scanN s (j : Int) = if (Num.readL (rest s j)).kind = 0 then (0, 0) else ((Num.readL (rest s j)).kind, j + (Num.readL (rest s j)).fin) := by
  unfold Num.scanN
  rw [if_pos (by omega), Int.toNat_natCast]
  rfl
theorem qt_at (s : ByteArray) (j : Nat) : Qt.scanI s (j : Int) = if Qt.quoted (rest s j) = true then ((if (Qt.readL (rest s j)).err = 0 then (if Qt.hd (rest s j) = 39 then 13 else 14) else 0), ((j + 1 + (Qt.readL (rest s j)).pos : Nat) : Int), (Qt.readL (rest s j)).err) else (0, 0, 0) := by
  unfold Qt.scanI
  rw [if_pos (by omega), Int.toNat_natCast]
  rfl
theorem wrd_at (s : ByteArray) (j : Nat) (hj : j < s.size) : ((Wrd.scanI s (j : Int)).1, (Wrd.scanI s (j : Int)).2.1) = if (Wrd.scan (rest s j)).1 = 0 then ((0 : Int), (0 : Int)) else ((Wrd.scan (rest s j)).1, ((j + (Wrd.scan (rest s j)).2.1 : Nat) : Int)) := by
  unfold Wrd.scanI
  rw [if_pos (by omega), Int.toNat_natCast]
  unfold Wrd.lexI
  rw [show Wrd.rest s j = rest s j from rfl]
  split <;> rfl
/-- What the three scanners say, put together. -/
theorem lex_ways (s : ByteArray) (j : Nat) (hj : j < s.size) :
    (((Num.scanN s (j : Int)).1 ≠ 0 ∧ lexI s j = (((Num.scanN s (j : Int)).1 : Int), (Num.scanN s (j : Int)).2, 0))) ∨
    ((Num.scanN s (j : Int)).1 = 0 ∧ ((Qt.scanI s (j : Int)).1 ≠ 0 ∨ (Qt.scanI s (j : Int)).2.2 ≠ 0) ∧ ((Qt.scanI s (j : Int)).1, (Qt.scanI s (j : Int)).2.1, (Qt.scanI s (j : Int)).2.2) = ((lexI s j).1, (((lexI s j).2.1 : Nat) : Int), (lexI s j).2.2)) ∨
    ((Num.scanN s (j : Int)).1 = 0 ∧ (Qt.scanI s (j : Int)).1 = 0 ∧ (Qt.scanI s (j : Int)).2.2 = 0 ∧ (Wrd.scanI s (j : Int)).1 ≠ 0 ∧ ((Wrd.scanI s (j : Int)).1, (Wrd.scanI s (j : Int)).2.1) = ((lexI s j).1, (((lexI s j).2.1 : Nat) : Int)) ∧ (lexI s j).2.2 = 0) ∨
    ((Num.scanN s (j : Int)).1 = 0 ∧ (Qt.scanI s (j : Int)).1 = 0 ∧ (Qt.scanI s (j : Int)).2.2 = 0 ∧ (Wrd.scanI s (j : Int)).1 = 0 ∧ lexI s j = (0, j, 70)) := by
  have h1 := num_at s j hj
  have h2 := qt_at s j
  have h3 := wrd_at s j hj
  have h30 : (Wrd.scanI s (j : Int)).1 = (if (Wrd.scan (rest s j)).1 = 0 then ((0 : Int), (0 : Int)) else ((Wrd.scan (rest s j)).1, ((j + (Wrd.scan (rest s j)).2.1 : Nat) : Int))).1 := by rw [← h3]
  rw [h1, h2, h3, h30]
  unfold lexI lexL
  by_cases k1 : (Num.readL (rest s j)).kind = 0
  · rw [if_pos k1, if_neg (show ¬ (Num.readL (rest s j)).kind ≠ 0 from fun h => h k1)]
    cases hq : Qt.quoted (rest s j) with
    | true =>
      rw [if_pos rfl, if_pos rfl]
      refine .inr (.inl ⟨rfl, ?_, ?_⟩)
      · dsimp only
        by_cases z : (Qt.readL (rest s j)).err = 0
        · rw [if_pos z]
          left
          split <;> decide
        · exact .inr z
      · dsimp only
        rw [show j + 1 + (Qt.readL (rest s j)).pos = j + (1 + (Qt.readL (rest s j)).pos) by omega]
    | false =>
      simp only [Bool.false_eq_true, if_false]
      by_cases k3 : (Wrd.scan (rest s j)).1 = 0
      · rw [if_pos k3, if_neg (show ¬ (Wrd.scan (rest s j)).1 ≠ 0 from fun h => h k3)]
        simp
      · rw [if_neg k3, if_pos k3]
        simp [k3]
  · rw [if_neg k1, if_pos k1]
    exact .inl ⟨k1, rfl⟩
theorem reflexeme_any (s : ByteArray) (j : Nat) (hs : s.size ≤ 17592186044415) (hj : j < s.size) (w : World) :
    Calls Tryz.prog 24 #[.string s, .int .i64 (j : Int)] w fun e w' => e = .returned (.tuple #[.int .i64 (lexI s j).1, .int .i64 (((lexI s j).2.1 : Nat) : Int), .int .i64 (lexI s j).2.2]) ∧ Below w.heap.size w w' := by
  have c1 := fun W => Num.refScan_any s (j : Int) (by omega) W
  have c2 := fun W => Qt.refscan_any s (j : Int) hs W
  have c3 := fun W => Wrd.refscan_any s (j : Int) (by omega) W
  have hw := lex_ways s j hj
  generalize Num.scanN s (j : Int) = n at *
  generalize Qt.scanI s (j : Int) = q at *
  generalize Wrd.scanI s (j : Int) = d at *
  generalize lexI s j = x at *
  obtain ⟨n1, n2⟩ := n
  obtain ⟨q1, q2, q3⟩ := q
  obtain ⟨d1, d2, d3⟩ := d
  obtain ⟨x1, x2, x3⟩ := x
  dsimp only at *
  have C1 := Lib.hid c1
  have C2 := Lib.hid c2
  have C3 := Lib.hid c3
  clear c1 c2 c3
  rcases hw with ⟨h1, e⟩ | ⟨h1, h2, e⟩ | ⟨h1, h2, h3, h4, e, e2⟩ | ⟨h1, h2, h3, h4, e⟩
  · simp only [Prod.mk.injEq] at e
    obtain ⟨rfl, rfl, rfl⟩ := e
    have b1 : (((n1 : Nat) : Int) != 0) = true := by rw [bne_iff_ne]; omega
    clear h1
    go_enter Tryz.func24, Tryz.ntmps24
    go_wp2_with fail
    refine (C1.out _).mono ?_
    rintro e w1 ⟨rfl, rfl⟩
    go_wp2_with fail
    go_ret3
    exact ⟨rfl, Below.refl _ _⟩
  · simp only [Prod.mk.injEq] at e
    obtain ⟨rfl, rfl, rfl⟩ := e
    subst h1
    have b1 : (((0 : Nat) : Int) != 0) = false := rfl
    by_cases z : q3 = 0
    · subst z
      have b2 : (q1 != 0) = true := by rw [bne_iff_ne]; rcases h2 with h | h; exact h; exact absurd rfl h
      clear h2
      go_enter Tryz.func24, Tryz.ntmps24
      go_wp2_with fail
      refine (C1.out _).mono ?_
      rintro e w1 ⟨rfl, rfl⟩
      go_wp2_with fail
      refine (C2.out _).mono ?_
      rintro e w2 ⟨rfl, hb⟩
      go_wp2_with fail
      go_ret3
      exact ⟨rfl, hb⟩
    · have b2 : (q3 != 0) = true := by rw [bne_iff_ne]; exact z
      clear h2 z
      go_enter Tryz.func24, Tryz.ntmps24
      go_wp2_with fail
      refine (C1.out _).mono ?_
      rintro e w1 ⟨rfl, rfl⟩
      go_wp2_with fail
      refine (C2.out _).mono ?_
      rintro e w2 ⟨rfl, hb⟩
      go_wp2_with fail
      go_ret3
      exact ⟨rfl, hb⟩
  · simp only [Prod.mk.injEq] at e
    obtain ⟨rfl, rfl⟩ := e
    subst h1 h2 h3 e2
    have b1 : (((0 : Nat) : Int) != 0) = false := rfl
    have b2 : (d1 == 0) = false := by rw [beq_eq_false_iff_ne]; exact h4
    clear h4
    go_enter Tryz.func24, Tryz.ntmps24
    go_wp2_with fail
    refine (C1.out _).mono ?_
    rintro e w1 ⟨rfl, rfl⟩
    go_wp2_with fail
    refine (C2.out _).mono ?_
    rintro e w2 ⟨rfl, hb⟩
    go_wp2_with fail
    refine (C3.out _).mono ?_
    rintro e w3 ⟨rfl, hb3⟩
    go_wp2_with fail
    go_ret3
    exact ⟨rfl, hb.trans (hb3.mono hb.size)⟩
  · simp only [Prod.mk.injEq] at e
    obtain ⟨rfl, rfl, rfl⟩ := e
    subst h1 h2 h3 h4
    have b1 : (((0 : Nat) : Int) != 0) = false := rfl
    go_enter Tryz.func24, Tryz.ntmps24
    go_wp2_with fail
    refine (C1.out _).mono ?_
    rintro e w1 ⟨rfl, rfl⟩
    go_wp2_with fail
    refine (C2.out _).mono ?_
    rintro e w2 ⟨rfl, hb⟩
    go_wp2_with fail
    refine (C3.out _).mono ?_
    rintro e w3 ⟨rfl, hb3⟩
    go_wp2_with fail
    go_ret3
    exact ⟨rfl, hb.trans (hb3.mono hb.size)⟩

/-- Does a token of that kind and text count for gaps? -/
def countsV (k : Int) (x : ByteArray) : Bool := !(k == 15 && (x.data.toList == [123] || x.data.toList == [125] || x.data.toList == [59]))
theorem refcounts_any (k l c : Int) (x : ByteArray) (w : World) :
    Calls Tryz.prog 25 #[.agg #[.int .i64 k, .string x, .int .i64 l, .int .i64 c]] w fun e w' => e = .returned (.bool (countsV k x)) ∧ Below w.heap.size w w' := by
  by_cases hk : k = 15
  · have b1 : (k != 15) = false := by rw [bne_eq_false_iff_eq]; exact hk
    have HK : Hid (countsV k x = !(x.data.toList == [123] || x.data.toList == [125] || x.data.toList == [59])) := by
      unfold Hid countsV
      rw [hk]
      rfl
    clear hk
    go_enter Tryz.func25, Tryz.ntmps25
    go_wp2
    all_goals go_ret
    all_goals refine ⟨?_, (Below.refl _ _).alloc (Nat.le_refl _) _⟩
    all_goals rw [HK.out]
    all_goals refine congrArg (fun b : Bool => Ending.returned (Value.bool b)) ?_
    all_goals simp only [Lib.toList_data] at *
    all_goals simp [*]
  · have b1 : (k != 15) = true := by rw [bne_iff_ne]; exact hk
    have HK : Hid (countsV k x = true) := by
      unfold Hid countsV
      rw [beq_eq_false_iff_ne.2 hk]
      rfl
    clear hk
    go_enter Tryz.func25, Tryz.ntmps25
    go_wp2
    go_ret
    rw [HK.out]
    exact ⟨rfl, by go_grown⟩
end Go.Proofs.YtkehchajgdepaaaGreatDoor.Lx
/-
  The contract of package lexer's check (the text's size and its runes) and of counts. Condition: the string has at most 2^50 bytes.
-/
namespace Go.Proofs.YtkehchajgdepaaaGreatDoor.Lx
open Go.RowKit Gly
open Wrd (rn wd)
set_option linter.unusedSimpArgs false
set_option linter.unusedVariables false

theorem lexcheck_any (s : ByteArray) (hs : s.size ≤ 1125899906842624) (w : World) :
    Calls Tryz.prog 18 #[.string s] w fun e w' => e = .returned (.tuple #[.int .i64 ((runesN s : Nat) : Int), .int .i64 (runesE s)]) ∧ Below w.heap.size w w' := by
  have C0 := Lib.hid (fun W => check_any s hs W)
  by_cases h1 : 16777216 < s.size
  · have hr : Hid (runesN s = 0 ∧ runesE s = 3) := ⟨by unfold runesN; rw [if_pos h1], by unfold runesE; rw [if_pos h1]⟩
    go_enter Tryz.func18, Tryz.ntmps18
    go_wp2
    go_ret2
    exact ⟨by rw [hr.out.1, hr.out.2]; rfl, Below.refl _ _⟩
  by_cases h2 : checkN s < s.size
  · have hr : Hid (runesN s = checkN s ∧ runesE s = 10) := ⟨by unfold runesN; rw [if_neg h1, if_pos h2], by unfold runesE; rw [if_neg h1, if_pos h2]⟩
    have e0 := check_yes s h2
    have C1 : Hid (∀ W, Calls Tryz.prog 32 #[.string s] W fun e w' => e = .returned (.tuple #[.int .i64 ((checkN s : Nat) : Int), .int .i64 10]) ∧ Below W.heap.size W w') := fun W => by
      have := C0.out W
      rw [e0] at this
      exact this
    clear C0 e0 h2
    generalize checkN s = k at *
    go_enter Tryz.func18, Tryz.ntmps18
    go_wp2_with fail
    refine (C1.out _).mono ?_
    rintro e w1 ⟨rfl, hb1⟩
    go_wp2_with fail
    go_ret2
    exact ⟨by rw [hr.out.1, hr.out.2]; rfl, hb1⟩
  · have hr : Hid ((noN s < s.size → runesN s = noN s ∧ runesE s = 70) ∧ (¬ noN s < s.size → runesN s = 0 ∧ runesE s = 0)) := by
      refine ⟨fun h => ⟨?_, ?_⟩, fun h => ⟨?_, ?_⟩⟩
      · unfold runesN; rw [if_neg h1, if_neg h2, if_pos h]
      · unfold runesE; rw [if_neg h1, if_neg h2, if_pos h]
      · unfold runesN; rw [if_neg h1, if_neg h2, if_neg h]
      · unfold runesE; rw [if_neg h1, if_neg h2, if_neg h]
    have e0 := check_no s h2
    have C1 : Hid (∀ W, Calls Tryz.prog 32 #[.string s] W fun e w' => e = .returned (.tuple #[.int .i64 ((checkN s : Nat) : Int), .int .i64 0]) ∧ Below W.heap.size W w') := fun W => by
      have := C0.out W
      rw [e0] at this
      exact this
    clear C0 e0 h2
    generalize checkN s = kk at *
    go_enter Tryz.func18, Tryz.ntmps18
    go_wp2_with fail
    refine (C1.out _).mono ?_
    rintro e w1 ⟨rfl, hb1⟩
    have HB1 := Lib.hid hb1
    clear hb1
    go_wp2_with fail
    go_loopw [4] (fun _ wr => ∃ (n f : Nat), wr.heap[w1.heap.size]? = some (.stringIter s n) ∧ Below w.heap.size w wr ∧ w1.heap.size < wr.heap.size ∧ firstNo s f n = noN s ∧ s.size ≤ n + f) (fun _ wr => s.size - wr.iterPos w1.heap.size)
    case atStart => exact ⟨0, s.size, World.iter_heap _ _ _, HB1.out.trans (((Below.refl _ _).alloc (Nat.le_refl _) _).mono HB1.out.size), by simp [World.iter], rfl, by omega⟩
    case round =>
      obtain ⟨n, f, hk, hbw, hsz, hq, hf⟩ := hrel
      have HK := Lib.hid hk
      have HQ := Lib.hid hq
      have HB := Lib.hid hbw
      have HZ := HB1.out.size
      clear hk hq hbw
      by_cases hp : n < s.size
      · have hw := width_ge s n
        have hx := width_fits s n hp
        have hnx : ∀ ty, (Instr.next (.pointer (some ⟨w1.heap.size, 0, none⟩)) true ty).run Tryz.prog wr = .ok (.tuple #[.bool true, .int .i64 (n : Int), .int .i32 (((Utf8.decode s n).1 : Nat) : Int)]) (wr.iterAt w1.heap.size s (n + (Utf8.decode s n).2)) := fun ty => Lib.run_next_any_at (P := Tryz.prog) wr w1.heap.size s n ty HK.out hp
        have e1 := firstNo_stop s f n hp hf
        have e2 := firstNo_go s f n hp hf
        have it2 : Hid ((wr.iterAt w1.heap.size s (n + (Utf8.decode s n).2)).heap[w1.heap.size]? = some (.stringIter s (n + (Utf8.decode s n).2))) := Lib.iterAt_heap _ _ _ _ _ HK.out
        have HB2 := Lib.hid (Lib.below_iterAt HB.out HZ s (n + (Utf8.decode s n).2))
        have hz2 : Hid ((wr.iterAt w1.heap.size s (n + (Utf8.decode s n).2)).heap.size = wr.heap.size) := Lib.iterAt_size _ _ _ _
        generalize wr.iterAt w1.heap.size s (n + (Utf8.decode s n).2) = W2 at *
        generalize (Utf8.decode s n).2 = d at *
        generalize (((Utf8.decode s n).1 : Nat) : Int) = c at *
        have c2 := fun W => class_any c W
        generalize classI c = k at *
        have C3 := Lib.hid c2
        have E1 := Lib.hid e1
        have E2 := Lib.hid e2
        clear c2 e1 e2
        by_cases h : k = 0
        · have b3 : (k == 0) = true := by rw [beq_iff_eq]; exact h
          have HK0 := Lib.hid h
          clear h
          go_wp2_with fail
          refine (C3.out _).mono ?_
          rintro e w3 ⟨rfl, rfl⟩
          go_wp2_with fail
          go_ret2
          have hn : noN s = n := by rw [← HQ.out, E1.out HK0.out]
          obtain ⟨r1, r2⟩ := hr.out.1 (by omega)
          exact ⟨by rw [r1, r2, hn]; rfl, HB2.out⟩
        · have b3 : (k == 0) = false := by rw [beq_eq_false_iff_ne]; exact h
          have HK0 := Lib.hid h
          clear h
          go_wp2_with fail
          refine (C3.out _).mono ?_
          rintro e w3 ⟨rfl, rfl⟩
          go_wp2_with fail
          go_roundw
          case rel => exact ⟨n + d, f - 1, it2.out, HB2.out, by rw [hz2.out]; exact hsz, by rw [← HQ.out, E2.out HK0.out], by omega⟩
          case measure => rw [Plc.iterPos_of it2.out, Plc.iterPos_of HK.out]; omega
      · have hnx : ∀ ty, (Instr.next (.pointer (some ⟨w1.heap.size, 0, none⟩)) true ty).run Tryz.prog wr = .ok (.tuple #[.bool false]) wr := fun ty => Lib.run_next_end_at (P := Tryz.prog) wr w1.heap.size s n ty HK.out hp
        go_wp2_with fail
        go_ret2
        have hn : ¬ noN s < s.size := by rw [← HQ.out, firstNo_end s f n hp]; omega
        obtain ⟨r1, r2⟩ := hr.out.2 hn
        exact ⟨by rw [r1, r2]; rfl, HB.out⟩

/-- Does a token with that text count for gaps? -/
def countsT (x : ByteArray) : Bool := !(x.data.toList == [123] || x.data.toList == [125] || x.data.toList == [59])
theorem counts_any (x : ByteArray) (w : World) :
    Calls Tryz.prog 85 #[.string x] w fun e w' => e = .returned (.bool (countsT x)) ∧ w = w' := by
  have HK : Hid (countsT x = !(x.data.toList == [123] || x.data.toList == [125] || x.data.toList == [59])) := rfl
  go_enter Tryz.func85, Tryz.ntmps85
  go_wp2
  all_goals go_ret
  all_goals refine ⟨?_, rfl⟩
  all_goals rw [HK.out]
  all_goals refine congrArg (fun b : Bool => Ending.returned (Value.bool b)) ?_
  all_goals simp only [Lib.toList_data] at *
  all_goals (first | (simp [*]; done) | simp_all)
end Go.Proofs.YtkehchajgdepaaaGreatDoor.Lx
