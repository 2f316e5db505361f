/-
  The contract of the document's own Spread, and the walk of the statement PlaceSpreads. Condition: the string has at most 2^40 bytes.
-/
import Derived.Test.YtckailpeedfajaaDoorPlcSpc
import Derived.Test.YtckailpeedfajaaDoorPlcLaw
import Derived.Lib.AppendStr
import Derived.Lib.BufferRead
namespace Go.Proofs.YtckailpeedfajaaDoor.Plc
open Go.RowKit Gly
set_option linter.unusedSimpArgs false

theorem infoByte : (Tryd.prog.info? 5).map (fun i => (i.zero, i.size, i.bytes)) = some (some (.int .u8 0), 1, 1) := by kernel_rfl
/-- A row of bytes in memory of the call's own. -/
def Bytes (w : World) (base : Nat) (v : Value) (l : List UInt8) : Prop := w.ownsRow base 5 1 v l.length (Lib.byteCells l)
theorem Bytes.cat {w : World} {base : Nat} {v : Value} {l : List UInt8} {x : ByteArray} (h : w.ownsRow base 5 1 v (l.length + x.size) (Lib.byteCells l ++ Lib.strCells x)) : Bytes w base v (l ++ x.data.toList) := by
  unfold Bytes
  rw [List.length_append, Lib.byteCells_append, ← Lib.size_eq, ← Lib.strCells_eq]
  exact h
theorem Bytes.one {w : World} {base : Nat} {v : Value} {l : List UInt8} (h : w.ownsRow base 5 1 v (l.length + 1) (Lib.byteCells l ++ [.int .u8 32])) : Bytes w base v (l ++ [32]) := by
  unfold Bytes
  rw [List.length_append, Lib.byteCells_append]
  exact h
theorem Bytes.text {w : World} {base : Nat} {v : Value} {l : List UInt8} (h : Bytes w base v l) : (convert 44 9 v).run Tryd.prog w = .ok (.string ⟨l.toArray⟩) w := by
  have h2 := h.2
  rcases h2 with ⟨rfl, h0⟩ | ⟨g, cap, cur, rfl, _, hg, _, _, _, htk⟩
  · obtain rfl : l = [] := List.eq_nil_of_length_eq_zero h0
    exact Lib.run_convert_nil_bytes w _ _ _ 0 Tryd.underlying44 Tryd.underlying5 Tryd.underlying9
  · refine run_convert_bytes_back w _ _ _ _ cap l Tryd.underlying44 Tryd.underlying5 Tryd.underlying9 ?_
    exact Lib.bytes_of_row hg (by rw [Nat.mul_one] at htk; exact htk)
theorem after_bytes {w W w3 : World} {B : Nat} {v : Value} {l : List UInt8} (own : Bytes W B v l) (hb : Below B w W) (hBw : B ≤ W.heap.size) (hgrow : W.grownBy w3 v.ownBlock) : Below B w w3 :=
  hb.grown hgrow hBw (fun k hk => (World.ownsRow.lt own k hk).1)
theorem after_byte {w W w3 : World} {B : Nat} {v : Value} {l : List UInt8} {o : Obj} (own : Bytes W B v l) (hb : Below B w W) (hBw : B ≤ W.heap.size) (hgrow : (W.alloc o).grownBy w3 v.ownBlock) : Below B w w3 :=
  (hb.alloc hBw o).grown hgrow (by rw [World.size_alloc]; omega) (fun k hk => (World.ownsRow.lt own k hk).1)

set_option maxHeartbeats 4000000 in
theorem refSpread_any (s : ByteArray) (hs : s.size ≤ 1099511627776) (w : World) :
    Calls Tryd.prog 19 #[.string s] w fun e w' => e = .returned (.string ⟨(sprL s).toArray⟩) ∧ Below w.heap.size w w' := by
  obtain ⟨i0, hi, hz0, hz1, hz2⟩ := info_parts infoByte
  go_enter Tryd.func19, Tryd.ntmps19
  go_wp2_with fail
  go_loopw [3, 4, 5] (fun v cv iv wr => ∃ (p f : Nat) (c : Int) (acc : List UInt8), cv = .int .i64 c ∧ iv = .int .i64 (p : Int) ∧ Bytes wr w.heap.size v acc ∧ Below w.heap.size w wr ∧ acc ++ spr s f p (1, c) = sprL s ∧ p ≤ s.size ∧ s.size ≤ p + f ∧ acc.length ≤ 8 * p ∧ 1 ≤ c ∧ c ≤ 1 + 8 * (p : Int)) (fun _ _ i _ => s.size - (intOf i).toNat)
  case atStart => exact ⟨0, s.size, 1, [], rfl, rfl, World.ownsRow_nil _ _ _ _, Below.refl _ _, rfl, by omega, by omega, by simp, by omega, by omega⟩
  case round =>
    obtain ⟨p, f, c, acc, rfl, rfl, hown, hbw, hq, hp0, hf, hacc, k1, k2⟩ := hrel
    have HQ := Lib.hid hq
    have HOWN := Lib.hid hown
    have HBW := Lib.hid hbw
    clear hq hown hbw
    by_cases hp : p < s.size
    · have hw := width_ge s p
      have hx := width_fits s p hp
      have hw4 := width_four s p
      by_cases n0 : nlAt s p = 0
      · have E := end_is s p 0 (by omega) hp0 n0
        have N0 := Lib.hid n0
        have hru : Hid (runeAt s (p : Int) = ((((Utf8.decode s p).1 : Nat) : Int), (((Utf8.decode s p).2 : Nat) : Int))) := runeAt_in s p hp
        have hb := bt_in s p hp
        clear n0
        by_cases c9 : bt s p = 9
        · have x : s[p].toNat = 9 := by omega
          have W1 : (Utf8.decode s p).2 = 1 := width_ascii s p (by omega)
          have C9 := Lib.hid c9
          clear hb c9 hw4 hw
          go_wp2_with fail
          refine (E.out _).mono ?_
          rintro e w1 ⟨rfl, rfl⟩
          go_wp2_with fail
          refine (refnext_any s p (by omega) _).mono ?_
          rintro e w1 ⟨rfl, rfl⟩
          rw [hru.out]
          go_wp2_with (first | (at_builtin; refine wpList_append_own _ rfl _ _ 44 rfl w.heap.size 5 i0 (.int .u8 0) 1 1 Tryd.underlying44 hi hz0 hz1 hz2 rfl (by decide) _ _ _ rfl (HOWN.out.alloc _) ⟨wr.heap.size, 0, none⟩ 1 1 [.int .u8 32] rfl rfl ?c1 ?c2 ?c3 ?c4 ?c5 ?_))
          case c1 =>
            intro j u hj
            match j, hj with
            | 0, hj => simp at hj; subst hj; simp [Addr.add]
          case c2 => intro u hu; simp at hu; subst hu; rfl
          case c3 => unfold maxLen; omega
          case c4 => omega
          case c5 => have := HBW.out.size; simp; omega
          intro v' w3 hown' hgrow _
          have OWN3 := Lib.hid (Bytes.one hown')
          have BW3 := Lib.hid (after_byte HOWN.out HBW.out HBW.out.size hgrow)
          clear hown' hgrow
          obtain ⟨g1, g2, g3⟩ := tab_step c k1
          obtain ⟨n, hn⟩ : ∃ n, (tabI c - c).toNat = n := ⟨_, rfl⟩
          have HN := Lib.hid hn
          rw [hn] at g1 g2 g3
          have G3 := Lib.hid g3
          clear hn g3
          go_wp2_with fail
          go_loopw [3, 4] (fun v cv wr => ∃ m : Nat, cv = .int .i64 (c + (m : Int)) ∧ Bytes wr w.heap.size v (acc ++ List.replicate m 32) ∧ Below w.heap.size w wr ∧ 1 ≤ m ∧ m ≤ n) (fun _ cv _ => n - (intOf cv - c).toNat)
          case atStart => exact ⟨1, rfl, OWN3.out, BW3.out, Nat.le_refl _, g1⟩
          case round =>
            obtain ⟨m, rfl, hown, hbw, m1, m2⟩ := hrel
            have OWN4 := Lib.hid hown
            have BW4 := Lib.hid hbw
            clear hown hbw
            have hm : (c + (m : Int)).tmod 8 = (c + (m : Int)) % 8 := Int.tmod_eq_emod_of_nonneg (by omega)
            by_cases hmn : m < n
            · have hne : ((c + (m : Int)) % 8 == 1) = false := by
                rw [beq_eq_false_iff_ne]
                have := G3.out
                unfold tabI at this
                omega
              have hne2 : ((c + (m : Int)) % 8 != 1) = true := by rw [bne, hne]; rfl
              have hlen : (acc ++ List.replicate m (32 : UInt8)).length = acc.length + m := by simp
              have HL := Lib.hid hlen
              clear hlen
              go_wp2_with (first | (at_builtin; refine wpList_append_own _ rfl _ _ 44 rfl w.heap.size 5 i0 (.int .u8 0) 1 1 Tryd.underlying44 hi hz0 hz1 hz2 rfl (by decide) _ _ _ rfl (OWN4.out.alloc _) ⟨wr.heap.size, 0, none⟩ 1 1 [.int .u8 32] rfl rfl ?k1 ?k2 ?k3 ?k4 ?k5 ?_))
              case k1 =>
                intro j u hj
                match j, hj with
                | 0, hj => simp at hj; subst hj; simp [Addr.add]
              case k2 => intro u hu; simp at hu; subst hu; rfl
              case k3 => rw [HL.out]; unfold maxLen; omega
              case k4 => rw [HL.out]; omega
              case k5 => have := BW4.out.size; simp; omega
              intro v5 w5 hown' hgrow _
              have OWN5 := Lib.hid (Bytes.one (l := acc ++ List.replicate m 32) (by rw [HL.out]; exact hown'))
              have BW5 := Lib.hid (after_byte OWN4.out BW4.out BW4.out.size hgrow)
              clear hown' hgrow
              go_wp2_with fail
              go_roundw
              case rel =>
                refine ⟨m + 1, by go_num, ?_, BW5.out, by omega, by omega⟩
                have := OWN5.out
                rw [List.append_assoc] at this
                have e : List.replicate m (32 : UInt8) ++ [32] = List.replicate (m + 1) 32 := by rw [List.replicate_succ']
                rw [e] at this
                exact this
              case measure => simp [intOf]; omega
            · obtain rfl : m = n := by omega
              have hne : ((c + (m : Int)) % 8 == 1) = true := by
                rw [beq_iff_eq]
                have := G3.out
                unfold tabI at this
                omega
              have hne2 : ((c + (m : Int)) % 8 != 1) = false := by rw [bne, hne]; rfl
              go_wp2_with fail
              go_roundw
              case rel =>
                refine ⟨p + (Utf8.decode s p).2, f - 1, c + (m : Int), acc ++ List.replicate m 32, rfl, by rw [W1]; go_num, OWN4.out, BW4.out, ?_, hx, by omega, by simp; omega, by omega, by omega⟩
                rw [← HQ.out, spr_char s f p 1 c N0.out hp hf, if_pos C9.out, G3.out, List.append_assoc]
                have e : outAt s p c = List.replicate m 32 := by unfold outAt; rw [if_pos C9.out, HN.out]
                rw [e]
              case measure => simp [intOf]; omega
        · have x : ¬ s[p].toNat = 9 := by omega
          have C9 := Lib.hid c9
          have j1 : (p : Int) ≤ (p : Int) + (((Utf8.decode s p).2 : Nat) : Int) := by omega
          have j2 : (p : Int) + (((Utf8.decode s p).2 : Nat) : Int) ≤ (s.size : Int) := by omega
          have hz := sl_size s p (p + (Utf8.decode s p).2) hx
          have HZ := Lib.hid hz
          clear hb c9 hz
          go_wp2_with fail
          refine (E.out _).mono ?_
          rintro e w1 ⟨rfl, rfl⟩
          go_wp2_with fail
          refine (refnext_any s p (by omega) _).mono ?_
          rintro e w1 ⟨rfl, rfl⟩
          rw [hru.out]
          go_wp2_with (first | (at_builtin; refine Lib.wpList_append_own_string _ rfl _ _ 44 9 rfl w.heap.size 5 i0 Tryd.underlying44 Tryd.underlying9 hi hz0 hz1 hz2 _ _ _ rfl HOWN.out (s.extract p (p + (Utf8.decode s p).2)) rfl ?f3 ?f4 ?f5 ?_))
          case f3 => rw [HZ.out]; unfold maxLen; omega
          case f4 => rw [HZ.out]; omega
          case f5 => exact HBW.out.size
          intro v' w3 hown' hgrow _
          have OWN3 := Lib.hid (Bytes.cat (x := s.extract p (p + (Utf8.decode s p).2)) (by rw [HZ.out, Nat.add_sub_cancel_left]; exact hown'))
          have BW3 := Lib.hid (after_bytes HOWN.out HBW.out HBW.out.size hgrow)
          clear hown' hgrow
          go_wp2_with fail
          go_roundw
          case rel =>
            refine ⟨p + (Utf8.decode s p).2, f - 1, c + 1, _, by go_num, by go_num, OWN3.out, BW3.out, ?_, hx, by omega, ?_, by omega, by omega⟩
            · rw [← HQ.out, spr_char s f p 1 c N0.out hp hf, if_neg C9.out, List.append_assoc]
              have e : outAt s p c = (s.extract p (p + (Utf8.decode s p).2)).data.toList := by unfold outAt; rw [if_neg C9.out]; rfl
              rw [e]
            · rw [List.length_append, ← Lib.size_eq, HZ.out]
              omega
          case measure => simp [intOf]; omega
      · have hk := nlAt_fits s p hp0
        obtain ⟨k, hk1, hk2⟩ : ∃ k, nlAt s p = k ∧ 1 ≤ k := ⟨_, rfl, by omega⟩
        have E := end_is s p k (by omega) hp0 hk1
        rw [hk1] at hk
        have hk3 : k ≤ 2 := by rw [← hk1]; exact nlAt_le s p
        have NK := Lib.hid hk1
        have N0 := Lib.hid n0
        have kb : decide ((0 : Int) < ((k : Nat) : Int)) = true := decide_eq_true (by omega)
        have j1 : (p : Int) ≤ (p : Int) + (k : Int) := by omega
        have j2 : (p : Int) + (k : Int) ≤ (s.size : Int) := by omega
        have HZ := Lib.hid (sl_size s p (p + k) hk)
        clear hk1 n0
        go_wp2_with (first | (go_at_call 24; refine (E.out _).mono ?_; rintro e w2 ⟨rfl, rfl⟩) | (at_builtin; refine Lib.wpList_append_own_string _ rfl _ _ 44 9 rfl w.heap.size 5 i0 Tryd.underlying44 Tryd.underlying9 hi hz0 hz1 hz2 _ _ _ rfl HOWN.out (s.extract p (p + k)) rfl ?e3 ?e4 ?e5 ?_))
        case e3 => rw [HZ.out]; unfold maxLen; omega
        case e4 => rw [HZ.out]; omega
        case e5 => exact HBW.out.size
        intro v' w3 hown' hgrow _
        have OWN3 := Lib.hid (Bytes.cat (x := s.extract p (p + k)) (by rw [HZ.out, Nat.add_sub_cancel_left]; exact hown'))
        have BW3 := Lib.hid (after_bytes HOWN.out HBW.out HBW.out.size hgrow)
        clear hown' hgrow
        go_wp2_with fail
        go_roundw
        case rel =>
          refine ⟨p + k, s.size, 1, _, rfl, by go_num, OWN3.out, BW3.out, ?_, hk, by omega, ?_, by omega, by omega⟩
          · have h := spr_nl s f p 1 c N0.out hp hf
            rw [NK.out] at h
            rw [← HQ.out, h, List.append_assoc]
            rfl
          · rw [List.length_append, ← Lib.size_eq, HZ.out]
            omega
        case measure => simp [intOf]; omega
    · obtain rfl : p = s.size := by omega
      have hcv := HOWN.out.text
      go_wp2_with fail
      go_ret
      refine ⟨?_, HBW.out⟩
      rw [← HQ.out, spr_end _ _ _ _ hp, List.append_nil]
      rfl

theorem spreads_walk (a0 : ByteArray) (w0 : a0.size ≤ 1099511627776) (w : World) :
    Calls Tryd.prog 6 #[.string a0] w fun e w' => e = .returned (.bool true) ∧ Below w.heap.size w w' := by
  have c1 := fun W => spread_any a0 w0 W
  have c2 := fun W => refSpread_any a0 w0 W
  have c3 := fun W => trim_any a0 (by omega) W
  have c4 := fun W => refTrim_any a0 (by omega) W
  generalize (⟨(sprL a0).toArray⟩ : ByteArray) = x at c1 c2
  generalize trimS a0 = y at c3 c4
  have C1 := Lib.hid c1
  have C2 := Lib.hid c2
  have C3 := Lib.hid c3
  have C4 := Lib.hid c4
  clear c1 c2 c3 c4
  go_enter Tryd.func6, Tryd.ntmps6
  go_wp2_with fail
  refine (awake_any _).mono ?_
  rintro e w1 ⟨rfl, hb1⟩
  have HB1 := Lib.hid hb1
  clear hb1
  go_wp2_with fail
  refine (C1.out _).mono ?_
  rintro e w2 ⟨rfl, hb2⟩
  have HB2 := Lib.hid hb2
  clear hb2
  go_wp2_with fail
  refine (C2.out _).mono ?_
  rintro e w3 ⟨rfl, hb3⟩
  have HB3 := Lib.hid hb3
  clear hb3
  go_wp2_with fail
  refine (C3.out _).mono ?_
  rintro e w4 ⟨rfl, hb4⟩
  have HB4 := Lib.hid hb4
  clear hb4
  go_wp2_with fail
  refine (C4.out _).mono ?_
  rintro e w5 ⟨rfl, rfl⟩
  go_wp2_with fail
  go_ret
  have s1 := HB1.out.size
  have s2 := HB2.out.size
  have s3 := HB3.out.size
  exact ⟨by first | rfl | simp, HB1.out.trans ((HB2.out.mono s1).trans ((HB3.out.mono (Nat.le_trans s1 s2)).trans (HB4.out.mono (Nat.le_trans s1 (Nat.le_trans s2 s3)))))⟩
end Go.Proofs.YtckailpeedfajaaDoor.Plc
