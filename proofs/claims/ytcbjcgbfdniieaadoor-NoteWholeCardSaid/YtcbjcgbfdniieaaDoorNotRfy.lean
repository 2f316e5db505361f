/-
  The contract of the document's own tidy: a line without its blanks. Condition: the line has at most 2^40 bytes.
-/
import Derived.Test.YtcbjcgbfdniieaaDoorNotLin
import Derived.Lib.AppendStr
import Derived.Lib.BufferRead
namespace Go.Proofs.YtcbjcgbfdniieaaDoor.Not
open Go.RowKit Gly
open Plc (linesL trimS)
set_option linter.unusedSimpArgs false
set_option linter.unusedVariables false

theorem infoByte : (Tryd.prog.info? 5).map (fun i => (i.zero, i.size, i.bytes)) = some (some (.int .u8 0), 1, 1) := by kernel_rfl
def Bytes (w : World) (base : Nat) (v : Value) (l : List UInt8) : Prop := w.ownsRow base 5 1 v l.length (Lib.byteCells l)
theorem Bytes.cat {w : World} {base : Nat} {v : Value} {l : List UInt8} {x : ByteArray} (h : w.ownsRow base 5 1 v (l.length + x.size) (Lib.byteCells l ++ Lib.strCells x)) : Bytes w base v (l ++ x.data.toList) := by
  unfold Bytes
  rw [List.length_append, Lib.byteCells_append, ← Lib.size_eq, ← Lib.strCells_eq]
  exact h
theorem Bytes.one {w : World} {base : Nat} {v : Value} {l : List UInt8} (x : UInt8) (h : w.ownsRow base 5 1 v (l.length + 1) (Lib.byteCells l ++ [.int .u8 ((x.toNat : Nat) : Int)])) : Bytes w base v (l ++ [x]) := by
  unfold Bytes
  rw [List.length_append, Lib.byteCells_append]
  exact h
theorem Bytes.text {w : World} {base : Nat} {v : Value} {l : List UInt8} (h : Bytes w base v l) : (convert 44 9 v).run Tryd.prog w = .ok (.string ⟨l.toArray⟩) w := by
  have h2 := h.2
  rcases h2 with ⟨rfl, h0⟩ | ⟨g, cap, cur, rfl, _, hg, _, _, _, htk⟩
  · obtain rfl : l = [] := List.eq_nil_of_length_eq_zero h0
    exact Lib.run_convert_nil_bytes w _ _ _ 0 Tryd.underlying44 Tryd.underlying5 Tryd.underlying9
  · refine run_convert_bytes_back w _ _ _ _ cap l Tryd.underlying44 Tryd.underlying5 Tryd.underlying9 ?_
    exact Lib.bytes_of_row hg (by rw [Nat.mul_one] at htk; exact htk)
theorem after_bytes {w W w3 : World} {B : Nat} {v : Value} {l : List UInt8} (own : Bytes W B v l) (hb : Below B w W) (hBw : B ≤ W.heap.size) (hgrow : W.grownBy w3 v.ownBlock) : Below B w w3 :=
  hb.grown hgrow hBw (fun k hk => (World.ownsRow.lt own k hk).1)
theorem after_byte {w W w3 : World} {B : Nat} {v : Value} {l : List UInt8} {o : Obj} (own : Bytes W B v l) (hb : Below B w W) (hBw : B ≤ W.heap.size) (hgrow : (W.alloc o).grownBy w3 v.ownBlock) : Below B w w3 :=
  (hb.alloc hBw o).grown hgrow (by rw [World.size_alloc]; omega) (fun k hk => (World.ownsRow.lt own k hk).1)
theorem fl_blank {b : UInt8} (h : b.toNat = 9 ∨ b.toNat = 11) : fl b = 32 := by
  unfold fl
  rw [if_pos]
  rcases h with h | h
  · exact .inl ((u8_eq b 9 (by decide)).1 h)
  · exact .inr ((u8_eq b 11 (by decide)).1 h)
theorem fl_other {b : UInt8} (h1 : ¬ b.toNat = 9) (h2 : ¬ b.toNat = 11) : fl b = b := by
  unfold fl
  rw [if_neg]
  rintro (rfl | rfl)
  · exact h1 rfl
  · exact h2 rfl
theorem trimL_cons (l : List UInt8) : trimL (32 :: l) = trimL l := rfl

set_option maxHeartbeats 4000000 in
theorem tidy_any (s : ByteArray) (hs : s.size ≤ 1099511627776) (w : World) :
    Calls Tryd.prog 33 #[.string s] w fun e w' => e = .returned (.string (bareS s)) ∧ Below w.heap.size w w' := by
  obtain ⟨i0, hi, hz0, hz1, hz2⟩ := info_parts infoByte
  obtain ⟨F, hF⟩ : ∃ F : List UInt8, s.data.toList.map fl = F := ⟨_, rfl⟩
  have hFl : F.length = s.size := by rw [← hF, List.length_map, ← Lib.size_eq]
  obtain ⟨t, ht⟩ : ∃ t, trimS ⟨F.toArray⟩ = t := ⟨_, rfl⟩
  have c1 := fun W => Plc.refTrim_any ⟨F.toArray⟩ (by rw [Lib.size_eq]; show F.length ≤ _; omega) W
  rw [ht] at c1
  have hts : t.size ≤ s.size := by
    have := Plc.trimS_size ⟨F.toArray⟩
    rw [ht, Lib.size_eq ⟨F.toArray⟩] at this
    have h2 : (⟨F.toArray⟩ : ByteArray).data.toList.length = F.length := rfl
    omega
  have hres : trimL (rest t 0) = bareB s.data.toList := by
    rw [rest_zero, ← ht, trim_link]
    unfold bareB
    rw [hF]
  have HRES := Lib.hid hres
  have C1 := Lib.hid c1
  have HF := Lib.hid hF
  clear c1 ht hres hF
  go_enter Tryd.func33, Tryd.ntmps33
  go_wp2_with fail
  go_loopw [3, 4] (fun v iv wr => ∃ (p : Nat) (acc : List UInt8), iv = .int .i64 (p : Int) ∧ Bytes wr w.heap.size v acc ∧ Below w.heap.size w wr ∧ acc ++ (rest s p).map fl = F ∧ p ≤ s.size ∧ acc.length = p) (fun _ i _ => s.size - (intOf i).toNat)
  case atStart => exact ⟨0, [], rfl, World.ownsRow_nil _ _ _ _, Below.refl _ _, by rw [rest_zero]; exact HF.out, by omega, rfl⟩
  case round =>
    obtain ⟨p, acc, rfl, hown, hbw, hq, hp0, hacc⟩ := hrel
    have HQ := Lib.hid hq
    have HOWN := Lib.hid hown
    have HBW := Lib.hid hbw
    clear hq hown hbw
    by_cases hp : p < s.size
    · have hrc := Lib.hid (rest_cons s p hp)
      by_cases c9 : s[p].toNat = 9 ∨ s[p].toNat = 11
      · have hfl := Lib.hid (fl_blank c9)
        rcases c9 with x | x
        · go_wp2_with (first | (at_builtin; refine wpList_append_own _ rfl _ _ 44 rfl w.heap.size 5 i0 (.int .u8 0) 1 1 Tryd.underlying44 hi hz0 hz1 hz2 rfl (by decide) _ _ _ rfl (HOWN.out.alloc _) ⟨wr.heap.size, 0, none⟩ 1 1 [.int .u8 32] rfl rfl ?a1 ?a2 ?a3 ?a4 ?a5 ?_))
          case a1 =>
            intro j u hj
            match j, hj with
            | 0, hj => simp at hj; subst hj; simp [Addr.add]
          case a2 => intro u hu; simp at hu; subst hu; rfl
          case a3 => unfold maxLen; omega
          case a4 => omega
          case a5 => have := HBW.out.size; simp; omega
          intro v' w3 hown' hgrow _
          have OWN3 := Lib.hid (Bytes.one (l := acc) 32 (by rw [hacc]; exact hown'))
          have BW3 := Lib.hid (after_byte HOWN.out HBW.out HBW.out.size hgrow)
          clear hown' hgrow
          go_wp2_with fail
          go_roundw
          case rel => exact ⟨p + 1, acc ++ [32], by go_num, OWN3.out, BW3.out, by rw [← HQ.out, hrc.out, List.map_cons, hfl.out]; simp, by omega, by simp; omega⟩
          case measure => simp [intOf]; omega
        · go_wp2_with (first | (at_builtin; refine wpList_append_own _ rfl _ _ 44 rfl w.heap.size 5 i0 (.int .u8 0) 1 1 Tryd.underlying44 hi hz0 hz1 hz2 rfl (by decide) _ _ _ rfl (HOWN.out.alloc _) ⟨wr.heap.size, 0, none⟩ 1 1 [.int .u8 32] rfl rfl ?b1 ?b2 ?b3 ?b4 ?b5 ?_))
          case b1 =>
            intro j u hj
            match j, hj with
            | 0, hj => simp at hj; subst hj; simp [Addr.add]
          case b2 => intro u hu; simp at hu; subst hu; rfl
          case b3 => unfold maxLen; omega
          case b4 => omega
          case b5 => have := HBW.out.size; simp; omega
          intro v' w3 hown' hgrow _
          have OWN3 := Lib.hid (Bytes.one (l := acc) 32 (by rw [hacc]; exact hown'))
          have BW3 := Lib.hid (after_byte HOWN.out HBW.out HBW.out.size hgrow)
          clear hown' hgrow
          go_wp2_with fail
          go_roundw
          case rel => exact ⟨p + 1, acc ++ [32], by go_num, OWN3.out, BW3.out, by rw [← HQ.out, hrc.out, List.map_cons, hfl.out]; simp, by omega, by simp; omega⟩
          case measure => simp [intOf]; omega
      · have x1 : ¬ s[p].toNat = 9 := fun h => c9 (.inl h)
        have x2 : ¬ s[p].toNat = 11 := fun h => c9 (.inr h)
        have y1 : (((s[p].toNat : Nat) : Int) == 9) = false := by rw [beq_eq_false_iff_ne]; omega
        have y2 : (((s[p].toNat : Nat) : Int) == 11) = false := by rw [beq_eq_false_iff_ne]; omega
        have hfl := Lib.hid (fl_other x1 x2)
        clear c9
        go_wp2_with (first | (at_builtin; refine wpList_append_own _ rfl _ _ 44 rfl w.heap.size 5 i0 (.int .u8 0) 1 1 Tryd.underlying44 hi hz0 hz1 hz2 rfl (by decide) _ _ _ rfl (HOWN.out.alloc _) ⟨wr.heap.size, 0, none⟩ 1 1 [.int .u8 ((s[p].toNat : Nat) : Int)] rfl rfl ?c1 ?c2 ?c3 ?c4 ?c5 ?_))
        case c1 =>
          intro j u hj
          match j, hj with
          | 0, hj => simp at hj; subst hj; simp [Addr.add]
        case c2 => intro u hu; simp at hu; subst hu; rfl
        case c3 => unfold maxLen; omega
        case c4 => omega
        case c5 => have := HBW.out.size; simp; omega
        intro v' w3 hown' hgrow _
        have OWN3 := Lib.hid (Bytes.one (l := acc) s[p] (by rw [hacc]; exact hown'))
        have BW3 := Lib.hid (after_byte HOWN.out HBW.out HBW.out.size hgrow)
        clear hown' hgrow
        go_wp2_with fail
        go_roundw
        case rel => exact ⟨p + 1, acc ++ [s[p]], by go_num, OWN3.out, BW3.out, by rw [← HQ.out, hrc.out, List.map_cons, hfl.out]; simp, by omega, by simp; omega⟩
        case measure => simp [intOf]; omega
    · obtain rfl : p = s.size := by omega
      have ha : Hid (acc = F) := by
        have := HQ.out
        rw [rest_nil s _ (Nat.le_refl _), List.map_nil, List.append_nil] at this
        exact this
      have hown := HOWN.out
      rw [ha.out] at hown
      have hconv := Bytes.text hown
      clear hown
      go_wp2_with fail
      refine (C1.out _).mono ?_
      rintro e w1 ⟨rfl, rfl⟩
      go_wp2_with fail
      go_loop [6] (fun iv => ∃ p : Nat, iv = .int .i64 (p : Int) ∧ p ≤ t.size ∧ trimL (rest t p) = bareB s.data.toList) (fun iv => t.size - (intOf iv).toNat)
      case atStart => exact ⟨0, rfl, by omega, HRES.out⟩
      case round =>
        obtain ⟨p, rfl, hp0, hq⟩ := hrel
        have HQ2 := Lib.hid hq
        clear hq
        by_cases hp : p < t.size
        · have hrc := Lib.hid (rest_cons t p hp)
          by_cases c32 : t[p].toNat = 32
          · have y1 : (((t[p].toNat : Nat) : Int) == 32) = true := by rw [c32]; rfl
            have h32 := Lib.hid ((u8_eq t[p] 32 (by decide)).1 c32)
            clear c32
            go_wp2_with fail
            go_round
            case rel => exact ⟨p + 1, by go_num, by omega, by rw [← HQ2.out, hrc.out, h32.out]; rfl⟩
            case measure => simp [intOf]; omega
          · have y1 : (((t[p].toNat : Nat) : Int) == 32) = false := by rw [beq_eq_false_iff_ne]; omega
            have hend : Hid (t.extract p t.size = bareS s) := by
              apply bytes_ext
              rw [tail_rest, bareS_data, ← HQ2.out, trimL_self]
              rw [hrc.out]
              intro h
              have h : t[p] = 32 := by simpa using h
              rw [h] at c32
              exact c32 rfl
            have t1 : (p : Int) ≤ (t.size : Int) := by omega
            clear c32
            go_wp2_with fail
            go_ret
            rw [← hend.out]
            exact ⟨rfl, HBW.out⟩
        · obtain rfl : p = t.size := by omega
          have hend : Hid (ByteArray.empty = bareS s) := by
            apply bytes_ext
            rw [bareS_data, ← HQ2.out, rest_nil t _ (Nat.le_refl _)]
            rfl
          go_wp2_with fail
          go_ret
          rw [← hend.out]
          exact ⟨rfl, HBW.out⟩
end Go.Proofs.YtcbjcgbfdniieaaDoor.Not
