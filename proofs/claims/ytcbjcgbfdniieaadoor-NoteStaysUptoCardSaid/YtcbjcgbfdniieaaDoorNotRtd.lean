/-
  The contract of the document's own Tidy. Conditions: the comment has at most 2^40 bytes, no line of it 2^32, and what is laid anew at most 2^46 bytes.
-/
import Derived.Test.YtcbjcgbfdniieaaDoorNotRfl
import Derived.Test.YtcbjcgbfdniieaaDoorNotTid
namespace Go.Proofs.YtcbjcgbfdniieaaDoor.Not
open Go.RowKit Gly
open Plc (linesL trimS Texts)
set_option linter.unusedSimpArgs false
set_option linter.unusedVariables false

theorem refTidy_bad (s : ByteArray) (c : Int) (hc : c < 1 ∨ 65536 < c) (w : World) :
    Calls Tryd.prog 20 #[.string s, .int .i64 c] w fun e w' => e = .returned (.tuple #[.string ByteArray.empty, .int .i64 1]) ∧ Below w.heap.size w w' := by
  by_cases h1 : c < 1
  · go_enter Tryd.func20, Tryd.ntmps20
    go_wp2_with fail
    go_ret2
    exact ⟨rfl, Below.refl _ _⟩
  · have h2 : 65536 < c := by omega
    have t1 : decide (c < 1) = false := decide_eq_false h1
    have t2 : decide (65536 < c) = true := decide_eq_true h2
    clear hc
    go_enter Tryd.func20, Tryd.ntmps20
    go_wp2_with fail
    go_ret2
    exact ⟨rfl, Below.refl _ _⟩
theorem refTidy_no (s : ByteArray) (n : Nat) (hs : s.size ≤ 1125899906842624) (h1 : 1 ≤ n) (h2 : n ≤ 65536) (hk : kindN s.data.toList = 0) (w : World) :
    Calls Tryd.prog 20 #[.string s, .int .i64 (n : Int)] w fun e w' => e = .returned (.tuple #[.string ByteArray.empty, .int .i64 60]) ∧ Below w.heap.size w w' := by
  have C1 := Lib.hid (fun W => refLines_no s hs hk W)
  have t1 : decide ((n : Int) < 1) = false := decide_eq_false (by omega)
  have t2 : decide (65536 < (n : Int)) = false := decide_eq_false (by omega)
  clear hk
  go_enter Tryd.func20, Tryd.ntmps20
  go_wp2_with fail
  refine (C1.out _).mono ?_
  rintro e w1 ⟨rfl, hb⟩
  have HB1 := Lib.hid hb
  clear hb
  go_wp2_with fail
  go_ret2
  exact ⟨rfl, HB1.out⟩

/-- What is laid from a line on. -/
def remB (n : Nat) (F : List ByteArray) (k : Nat) : List UInt8 := if k = 0 then joinB n (datas F) else tailB n (datas (F.drop k))
theorem remB_first (n : Nat) (x : ByteArray) (L : List ByteArray) : remB n (x :: L) 0 = x.data.toList ++ remB n (x :: L) 1 := rfl
theorem remB_next (n : Nat) (F : List ByteArray) (k : Nat) (hk : k < F.length) (h0 : 0 < k) : remB n F k = [10] ++ ((if (F.getD k ByteArray.empty).data.toList = [] then [] else List.replicate n 32) ++ ((F.getD k ByteArray.empty).data.toList ++ remB n F (k + 1))) := by
  obtain ⟨y, hy⟩ : ∃ y, F.getD k ByteArray.empty = y := ⟨_, rfl⟩
  have hd : F.drop k = y :: F.drop (k + 1) := by
    rw [← hy, List.getD_eq_getElem?_getD, List.getElem?_eq_getElem hk, List.drop_eq_getElem_cons hk]
    rfl
  have e1 : remB n F k = tailB n (datas (F.drop k)) := if_neg (by omega)
  have e2 : remB n F (k + 1) = tailB n (datas (F.drop (k + 1))) := if_neg (by omega)
  rw [hy, e1, e2, hd, tail_cons]
  by_cases h : y.data.toList = []
  · rw [if_pos h, if_pos h, h]
    rfl
  · rw [if_neg h, if_neg h]
    simp
theorem remB_end (n : Nat) (F : List ByteArray) (k : Nat) (hk : F.length ≤ k) (h0 : 0 < k) : remB n F k = [] := by
  unfold remB
  rw [if_neg (by omega), List.drop_eq_nil_of_le hk]
  rfl

set_option maxRecDepth 100000 in
set_option maxHeartbeats 8000000 in
theorem refTidy_yes (s : ByteArray) (n : Nat) (hOk : Ok s) (h1 : 1 ≤ n) (h2 : n ≤ 65536) (hk : kindN s.data.toList ≠ 0) (hT : (tidyB (n + 2) s.data.toList).length ≤ 70368744177664) (w : World) :
    Calls Tryd.prog 20 #[.string s, .int .i64 (n : Int)] w fun e w' => e = .returned (.tuple #[.string ⟨(tidyB (n + 2) s.data.toList).toArray⟩, .int .i64 0]) ∧ Below w.heap.size w w' := by
  obtain ⟨i0, hi, hz0, hz1, hz2⟩ := info_parts infoByte
  have C1 := Lib.hid (fun W => refLines_yes s hOk hk W)
  have t1 : decide ((n : Int) < 1) = false := decide_eq_false (by omega)
  have t2 : decide (65536 < (n : Int)) = false := decide_eq_false (by omega)
  have hbd : datas (barS s) = barL s.data.toList := barS_data s
  have hlen := barS_len s
  have hs1 := hOk.1
  have hbs := barS_ne s
  obtain ⟨T, hTe⟩ : ∃ T, tidyB (n + 2) s.data.toList = T := ⟨_, rfl⟩
  have hTj : joinB (n + 2) (datas (barS s)) = T := by rw [hbd, ← hTe]; rfl
  rw [hTe] at hT ⊢
  generalize barS s = F at *
  obtain ⟨m, hm'⟩ : ∃ m, F.length = m := ⟨_, rfl⟩
  have hmp : 0 < m := by rw [← hm']; exact List.length_pos_iff.2 hbs
  rw [hm'] at hlen
  simp only [hm'] at C1
  obtain ⟨q, hq'⟩ : ∃ q, n + 2 = q := ⟨_, rfl⟩
  have hqi : (n : Int) + 2 = (q : Int) := by omega
  have hT0 : remB q F 0 = T := by rw [← hTj, hq']; rfl
  have HT0 := Lib.hid hT0
  have HT := Lib.hid hT
  have HL := Lib.hid hm'
  clear hbd hbs hTj hTe hm' hT hk hOk hT0
  go_enter Tryd.func20, Tryd.ntmps20
  go_wp2_with fail
  refine (C1.out _).mono ?_
  rintro e w1 ⟨g, cap, rfl, htx, hcap, hb⟩
  have HB1 := Lib.hid hb
  have HTX1 := Lib.hid htx
  clear hb htx
  go_wp2_with fail
  go_loopw [8, 9] (fun v iv wr => ∃ (k : Nat) (acc : List UInt8), iv = .int .i64 (k : Int) ∧ k ≤ m ∧ acc ++ remB q F k = T ∧ Bytes wr w1.heap.size v acc ∧ Below w1.heap.size w1 wr) (fun _ iv _ => m - (intOf iv).toNat)
  case atStart => exact ⟨0, [], rfl, by omega, HT0.out, World.ownsRow_nil _ _ _ _, Below.refl _ _⟩
  case round =>
    obtain ⟨k, acc, rfl, hk, hq, hown, hbw⟩ := hrel
    have HQ := Lib.hid hq
    have OW := Lib.hid hown
    have BW := Lib.hid hbw
    clear hq hown hbw
    by_cases hkm : k < m
    · obtain ⟨x, hx⟩ : ∃ x, F.getD k ByteArray.empty = x := ⟨_, rfl⟩
      have HX := Lib.hid hx
      have hcell : ∀ W, Below w1.heap.size w1 W → W.cell? ⟨g, k, none⟩ = some (.string x) := fun W hW => by
        rw [← HX.out]
        exact (HTX1.out.below hW).2 k (by rw [HL.out]; exact hkm)
      have HC := Lib.hid hcell
      clear hcell hx
      by_cases hk0 : k = 0
      · subst hk0
        have hce := HC.out _ BW.out
        have heq : Hid (remB q F 0 = x.data.toList ++ remB q F 1) := by
          rw [← HX.out]
          have := HL.out
          match F, this with
          | y :: r, _ => rfl
          | [], h => simp at h; omega
        have hsz : Hid (acc.length + x.size ≤ 70368744177664) := by
          have := HT.out
          rw [← HQ.out, heq.out, List.length_append, List.length_append, ← Lib.size_eq] at this
          unfold Hid
          omega
        go_wp2_with (first | (at_builtin; refine Lib.wpList_append_own_string _ rfl _ _ 44 9 rfl w1.heap.size 5 i0 Tryd.underlying44 Tryd.underlying9 hi hz0 hz1 hz2 _ _ _ rfl OW.out x rfl ?a3 ?a4 ?a5 ?_))
        case a3 => have := hsz.out; unfold maxLen; omega
        case a4 => have := hsz.out; omega
        case a5 => exact BW.out.size
        intro v' w3 hown' hgrow _
        have OW3 := Lib.hid (Bytes.cat (l := acc) (x := x) hown')
        have BW3 := Lib.hid (after_bytes OW.out BW.out BW.out.size hgrow)
        clear hown' hgrow
        go_wp2_with fail
        go_roundw
        case rel => exact ⟨1, acc ++ x.data.toList, rfl, by omega, by rw [← HQ.out, heq.out, List.append_assoc], OW3.out, BW3.out⟩
        case measure => simp [intOf]; omega
      · have hk1 : decide ((0 : Int) < (k : Int)) = true := decide_eq_true (by omega)
        have heq : Hid (remB q F k = [10] ++ ((if x.data.toList = [] then [] else List.replicate q 32) ++ (x.data.toList ++ remB q F (k + 1)))) := by
          have := remB_next q F k (by rw [HL.out]; exact hkm) (by omega)
          rw [HX.out] at this
          exact this
        have hqs : q ≤ 65538 := by omega
        have hsz : Hid (acc.length + 1 + ((if x.data.toList = [] then 0 else q) + x.size) ≤ 70368744177664) := by
          have := HT.out
          rw [← HQ.out, heq.out, List.length_append, List.length_append, List.length_append, List.length_append, ← Lib.size_eq] at this
          unfold Hid
          split at this
          · rename_i h
            rw [if_pos h]
            simp at this
            omega
          · rename_i h
            rw [if_neg h]
            simp at this
            omega
        obtain ⟨lim, hlim⟩ : ∃ lim, (if x.data.toList = [] then 0 else q) = lim := ⟨_, rfl⟩
        rw [hlim] at hsz
        have hrep : (if x.data.toList = [] then [] else List.replicate q 32) = List.replicate lim (32 : UInt8) := by
          rw [← hlim]
          split <;> rfl
        rw [hrep] at heq
        have HLIM := Lib.hid hlim
        clear hlim hrep
        go_wp2_with (first | (at_builtin; refine wpList_append_own _ rfl _ _ 44 rfl w1.heap.size 5 i0 (.int .u8 0) 1 1 Tryd.underlying44 hi hz0 hz1 hz2 rfl (by decide) _ _ _ rfl (OW.out.alloc _) ⟨wr.heap.size, 0, none⟩ 1 1 [.int .u8 10] rfl rfl ?b1 ?b2 ?b3 ?b4 ?b5 ?_))
        case b1 =>
          intro j u hj
          match j, hj with
          | 0, hj => simp at hj; subst hj; simp [Addr.add]
        case b2 => intro u hu; simp at hu; subst hu; rfl
        case b3 => have := hsz.out; unfold maxLen; omega
        case b4 => have := hsz.out; omega
        case b5 => have := BW.out.size; simp; omega
        intro v' w3 hown' hgrow _
        have OW3 := Lib.hid (Bytes.one (l := acc) 10 hown')
        have BW3 := Lib.hid (after_byte OW.out BW.out BW.out.size hgrow)
        clear hown' hgrow
        go_wp2_with fail
        go_loopw [8, 10] (fun v jv wr => ∃ j : Nat, jv = .int .i64 (j : Int) ∧ j ≤ lim ∧ Bytes wr w1.heap.size v (acc ++ [10] ++ List.replicate j 32) ∧ Below w1.heap.size w1 wr) (fun _ jv _ => lim - (intOf jv).toNat)
        case atStart => exact ⟨0, rfl, by omega, by simpa using OW3.out, BW3.out⟩
        case round =>
          obtain ⟨j, rfl, hj, hown, hbw⟩ := hrel
          have hlen2 : (acc ++ [10] ++ List.replicate j (32 : UInt8)).length = acc.length + 1 + j := by simp; omega
          obtain ⟨A, hA⟩ : ∃ A, acc ++ [10] ++ List.replicate j (32 : UInt8) = A := ⟨_, rfl⟩
          rw [hA] at hlen2 hown
          have HLEN := Lib.hid hlen2
          have HA := Lib.hid hA
          have OW4 := Lib.hid hown
          have BW4 := Lib.hid hbw
          have hce := HC.out _ BW4.out
          clear hown hbw hlen2 hA
          by_cases hjl : j < lim
          · have hxe : x.toList.isEmpty = false := by
              have := HLIM.out
              rw [Lib.toList_data]
              cases hh : x.data.toList with
              | nil => rw [if_pos hh] at this; omega
              | cons _ _ => rfl
            have hjq : j < q := by
              have := HLIM.out
              split at this <;> omega
            go_wp2_with (first | (at_builtin; refine wpList_append_own _ rfl _ _ 44 rfl w1.heap.size 5 i0 (.int .u8 0) 1 1 Tryd.underlying44 hi hz0 hz1 hz2 rfl (by decide) _ _ _ rfl (OW4.out.alloc _) ⟨wr.heap.size, 0, none⟩ 1 1 [.int .u8 32] rfl rfl ?c1 ?c2 ?c3 ?c4 ?c5 ?_))
            case c1 =>
              intro j u hj
              match j, hj with
              | 0, hj => simp at hj; subst hj; simp [Addr.add]
            case c2 => intro u hu; simp at hu; subst hu; rfl
            case c3 => have := hsz.out; rw [HLEN.out]; unfold maxLen; omega
            case c4 => have := hsz.out; rw [HLEN.out]; omega
            case c5 => have := BW4.out.size; simp; omega
            intro v5 w5 hown' hgrow _
            have OW5 := Lib.hid (Bytes.one (l := A) 32 hown')
            have BW5 := Lib.hid (after_byte OW4.out BW4.out BW4.out.size hgrow)
            clear hown' hgrow
            go_wp2_with fail
            go_roundw
            case rel =>
              refine ⟨j + 1, by go_num, by omega, ?_, BW5.out⟩
              have := OW5.out
              rw [← HA.out, List.append_assoc] at this
              have e : List.replicate j (32 : UInt8) ++ [32] = List.replicate (j + 1) 32 := by rw [List.replicate_succ']
              rw [e] at this
              exact this
            case measure => simp [intOf]; omega
          · obtain rfl : j = lim := by omega
            have htest : ¬ j < q ∨ x.toList.isEmpty = true := by
              have := HLIM.out
              split at this
              · rename_i h
                exact .inr (by rw [Lib.toList_data, h]; rfl)
              · exact .inl (by omega)
            rcases htest with hte | hte
            · go_wp2_with (first | (at_builtin; refine Lib.wpList_append_own_string _ rfl _ _ 44 9 rfl w1.heap.size 5 i0 Tryd.underlying44 Tryd.underlying9 hi hz0 hz1 hz2 _ _ _ rfl OW4.out x rfl ?d3 ?d4 ?d5 ?_))
              case d3 => have := hsz.out; rw [HLEN.out]; unfold maxLen; omega
              case d4 => have := hsz.out; rw [HLEN.out]; omega
              case d5 => exact BW4.out.size
              intro v5 w5 hown' hgrow _
              have OW5 := Lib.hid (Bytes.cat (l := A) (x := x) hown')
              have BW5 := Lib.hid (after_bytes OW4.out BW4.out BW4.out.size hgrow)
              clear hown' hgrow
              go_wp2_with fail
              go_roundw
              case rel => exact ⟨k + 1, _, by go_num, by omega, by rw [← HQ.out, heq.out, ← HA.out]; simp, OW5.out, BW5.out⟩
              case measure => simp [intOf]; omega
            · have hjd : j < q ∨ ¬ j < q := by omega
              rcases hjd with hjd | hjd
              · go_wp2_with (first | (at_builtin; refine Lib.wpList_append_own_string _ rfl _ _ 44 9 rfl w1.heap.size 5 i0 Tryd.underlying44 Tryd.underlying9 hi hz0 hz1 hz2 _ _ _ rfl OW4.out x rfl ?e3 ?e4 ?e5 ?_))
                case e3 => have := hsz.out; rw [HLEN.out]; unfold maxLen; omega
                case e4 => have := hsz.out; rw [HLEN.out]; omega
                case e5 => exact BW4.out.size
                intro v5 w5 hown' hgrow _
                have OW5 := Lib.hid (Bytes.cat (l := A) (x := x) hown')
                have BW5 := Lib.hid (after_bytes OW4.out BW4.out BW4.out.size hgrow)
                clear hown' hgrow
                go_wp2_with fail
                go_roundw
                case rel => exact ⟨k + 1, _, by go_num, by omega, by rw [← HQ.out, heq.out, ← HA.out]; simp, OW5.out, BW5.out⟩
                case measure => simp [intOf]; omega
              · go_wp2_with (first | (at_builtin; refine Lib.wpList_append_own_string _ rfl _ _ 44 9 rfl w1.heap.size 5 i0 Tryd.underlying44 Tryd.underlying9 hi hz0 hz1 hz2 _ _ _ rfl OW4.out x rfl ?f3 ?f4 ?f5 ?_))
                case f3 => have := hsz.out; rw [HLEN.out]; unfold maxLen; omega
                case f4 => have := hsz.out; rw [HLEN.out]; omega
                case f5 => exact BW4.out.size
                intro v5 w5 hown' hgrow _
                have OW5 := Lib.hid (Bytes.cat (l := A) (x := x) hown')
                have BW5 := Lib.hid (after_bytes OW4.out BW4.out BW4.out.size hgrow)
                clear hown' hgrow
                go_wp2_with fail
                go_roundw
                case rel => exact ⟨k + 1, _, by go_num, by omega, by rw [← HQ.out, heq.out, ← HA.out]; simp, OW5.out, BW5.out⟩
                case measure => simp [intOf]; omega
    · obtain rfl : k = m := by omega
      have hT2 : Hid (acc = T) := by
        have := HQ.out
        rw [remB_end q F k (by rw [HL.out]; exact Nat.le_refl _) hmp, List.append_nil] at this
        exact this
      have hown := OW.out
      rw [hT2.out] at hown
      have hconv := Bytes.text hown
      have BW2 := Lib.hid (HB1.out.trans (BW.out.mono HB1.out.size))
      clear hown
      go_wp2_with fail
      go_ret2
      exact ⟨rfl, BW2.out⟩
end Go.Proofs.YtcbjcgbfdniieaaDoor.Not
