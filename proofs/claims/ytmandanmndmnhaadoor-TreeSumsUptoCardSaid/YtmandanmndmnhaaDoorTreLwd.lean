/-
  offsidelaw10's TreeSums, walked: the kids are no more than 2^40 nodes.
-/
import Derived.Test.YtmandanmndmnhaaDoorTreAwk
namespace Go.Proofs.YtmandanmndmnhaaDoor.Tre
open Tks Go.RowKit
set_option linter.unusedSimpArgs false
set_option linter.unusedVariables false

theorem add_wr (a b : Nat) (h : a + b ≤ 1099511627777) : wrap64 ((a : Int) + (b : Int)) = ((a + b : Nat) : Int) ∧ IntKind.i64.wrap ((a : Int) + (b : Int)) = ((a + b : Nat) : Int) := by
  have e : wrap64 ((a : Int) + (b : Int)) = ((a + b : Nat) : Int) := by
    rw [IntWalk.wrap64_in _ ⟨by omega, by omega⟩]
    omega
  exact ⟨e, by rw [IntWalk.i64_left]; exact e⟩
theorem one_wr (a : Nat) (h : a ≤ 1099511627776) : wrap64 ((a : Int) + 1) = (a : Int) + 1 ∧ IntKind.i64.wrap ((a : Int) + 1) = (a : Int) + 1 := by
  have e : wrap64 ((a : Int) + 1) = (a : Int) + 1 := IntWalk.wrap64_in _ ⟨by omega, by omega⟩
  exact ⟨e, by rw [IntWalk.i64_left]; exact e⟩
theorem leaves_len (h : Hd) (k : Fo) : (leavesN h k).length ≤ 1 + sizeF k := by
  have := leaves_le k
  unfold leavesN
  split
  · simp
  · omega
set_option maxRecDepth 1000000 in
set_option maxHeartbeats 8000000 in
theorem sums_walk (kind : Int) (k : Fo) (v : Value) (w : World) (hk : KArg w v k) (hs : sizeF k ≤ 1099511627776) :
    Calls Tryd.prog 9 #[.int .i64 kind, v] w fun e w' => e = .returned (.bool true) ∧ Below w.heap.size w w' := by
  have CA := Lib.hid (fun W => awake_any W)
  have HA := Lib.hid hk
  have HM := Lib.hid hk.max
  have HZ := Lib.hid hs
  obtain ⟨pa, qa, rfl⟩ := hk.len
  clear hk hs
  by_cases z0 : kind = 1
  · have z1 : (kind == 1) = true := beq_iff_eq.2 z0
    clear z0
    go_enter Tryd.func9, Tryd.ntmps9
    go_wp2_with (first
      | (go_at_call 10; refine (CA.out _).mono ?_; rintro e w1 ⟨rfl, b1⟩; have B1 := Lib.hid b1; clear b1))
    go_ret
    exact ⟨rfl, B1.out⟩
  · have z1 : (kind == 1) = false := beq_eq_false_iff_ne.2 z0
    have hlv : leavesN ⟨kind, 0, ⟨#[]⟩, 0, 0⟩ k = leavesF k := if_neg z0
    have hds := deep_le_size k
    have hll := leaves_le k
    have C1 : Hid (∀ W, Below w.heap.size w W → Calls Tryd.prog 13 #[ndV ⟨kind, 0, ⟨#[]⟩, 0, 0⟩ (.slice pa (len k) qa)] W fun e w' => e = .returned (.int .i64 ((1 + sizeF k : Nat) : Int)) ∧ Below W.heap.size W w') := fun W hW => Size_any _ k _ W ⟨_, rfl, HA.out.below hW (Nat.le_refl _)⟩ HZ.out
    have C2 : Hid (∀ W, Below w.heap.size w W → Calls Tryd.prog 15 #[ndV ⟨kind, 0, ⟨#[]⟩, 0, 0⟩ (.slice pa (len k) qa)] W fun e w' => e = .returned (.int .i64 ((deepF k : Int) + 1)) ∧ Below W.heap.size W w') := fun W hW => by
      have := Depth_any ⟨kind, 0, ⟨#[]⟩, 0, 0⟩ k _ W ⟨_, rfl, HA.out.below hW (Nat.le_refl _)⟩ (by have := HZ.out; omega)
      rw [show ((1 + deepF k : Nat) : Int) = (deepF k : Int) + 1 by omega] at this
      exact this
    have C3 : Hid (∀ W, Below w.heap.size w W → Calls Tryd.prog 18 #[ndV ⟨kind, 0, ⟨#[]⟩, 0, 0⟩ (.slice pa (len k) qa)] W fun e w' => ∃ r, e = .returned r ∧ Own w' W.heap.size r (leavesF k) ∧ Below W.heap.size W w') := fun W hW => by
      have := Leaves_any ⟨kind, 0, ⟨#[]⟩, 0, 0⟩ k _ W ⟨_, rfl, HA.out.below hW (Nat.le_refl _)⟩ (by rw [hlv]; have := HZ.out; omega)
      rw [hlv] at this
      exact this
    obtain ⟨S, hS⟩ : ∃ S, 1 + sizeF k = S := ⟨_, rfl⟩
    obtain ⟨D, hD⟩ : ∃ D, deepF k = D := ⟨_, rfl⟩
    obtain ⟨L, hL⟩ : ∃ L, leavesF k = L := ⟨_, rfl⟩
    rw [hS] at C1
    rw [hD] at C2
    rw [hL] at C3
    have HLL : Hid (L.length ≤ 1099511627776) := by rw [← hL]; have := HZ.out; unfold Hid; omega
    have HSD : Hid (D < S ∧ S ≤ 1099511627777) := by have := HZ.out; unfold Hid; omega
    have HS0 : Hid (1 + sizeF (dropF 0 k) = S) := by rw [drop_zero]; exact hS
    have HD0 : Hid (max 0 (deepF (dropF 0 k)) = D) := by rw [drop_zero]; unfold Hid; omega
    have HL0 : Hid ([] ++ leavesF (dropF 0 k) = L) := by rw [drop_zero]; exact hL
    unfold ndV at C1 C2 C3
    clear z0 hlv hds hll hS hD hL
    go_enter Tryd.func9, Tryd.ntmps9
    go_upto_region 4 with (first
      | (go_at_call 10; refine (CA.out _).mono ?_; rintro e w1 ⟨rfl, b1⟩; have BX := Lib.hid b1; clear b1))
    generalize w1 = X at *
    go_wp2_with fail
    go_loopw [6, 7, 8, 9] (fun sv dv ov iv wr => ∃ (n s m : Nat) (acc : List Tk), sv = .int .i64 (s : Int) ∧ dv = .int .i64 (m : Int) ∧ iv = .int .i64 (n : Int) ∧ n ≤ len k ∧ Hid (s + sizeF (dropF n k) = S) ∧ Hid (max m (deepF (dropF n k)) = D) ∧ Hid (acc ++ leavesF (dropF n k) = L) ∧ Hid (Own wr X.heap.size ov acc) ∧ Hid (Below X.heap.size X wr)) (fun _ _ _ iv _ => len k - (intOf iv).toNat)
    case atStart => exact ⟨0, 1, 0, [], rfl, rfl, rfl, Nat.zero_le _, HS0, HD0, HL0, Own.nil _ _, Below.refl _ _⟩
    case round =>
      obtain ⟨n, s, m, acc, rfl, rfl, rfl, hn, HSN, HDN, HLN, OW, BN⟩ := hrel
      clear HS0 HD0 HL0
      have i0 : (0 : Int) ≤ (n : Int) := by omega
      have BW := Lib.hid (BX.out.trans (BN.out.mono BX.out.size))
      by_cases hp : n < len k
      · obtain ⟨h1, k1, e1⟩ := drop_cons n k hp
        rcases HA.out.below BW.out (Nat.le_refl _) with ⟨e, _⟩ | ⟨ba, oa, ca, ea, -, la, fa⟩
        · rw [e] at hp
          exact absurd hp (by simp [len])
        simp only [Value.slice.injEq] at ea
        obtain ⟨rfl, -, rfl⟩ := ea
        obtain ⟨v1, p0, p1, p2, p3, p4, p5, pk⟩ := fa.six e1
        have hm := mem_size (mem_drop n k e1)
        have hm2 := deep_le_size k1
        have hm3 := leaves_len h1 k1
        have E1 : Hid (∀ W, Below wr.heap.size wr W → Calls Tryd.prog 13 #[ndV h1 v1] W fun e w' => e = .returned (.int .i64 ((1 + sizeF k1 : Nat) : Int)) ∧ Below W.heap.size W w') := fun W hW => Size_any h1 k1 _ W ⟨_, rfl, pk.below hW (Nat.le_refl _)⟩ (by have := HZ.out; omega)
        have E2 : Hid (∀ W, Below wr.heap.size wr W → Calls Tryd.prog 15 #[ndV h1 v1] W fun e w' => e = .returned (.int .i64 ((1 + deepF k1 : Nat) : Int)) ∧ Below W.heap.size W w') := fun W hW => Depth_any h1 k1 _ W ⟨_, rfl, pk.below hW (Nat.le_refl _)⟩ (by have := HZ.out; omega)
        have E3 : Hid (∀ W, Below wr.heap.size wr W → Calls Tryd.prog 18 #[ndV h1 v1] W fun e w' => ∃ r, e = .returned r ∧ Own w' W.heap.size r (leavesN h1 k1) ∧ Below W.heap.size W w') := fun W hW => Leaves_any h1 k1 _ W ⟨_, rfl, pk.below hW (Nat.le_refl _)⟩ (by have := HZ.out; omega)
        have KS : Hid (∀ W, Below wr.heap.size wr W → W.cell? ⟨ba, oa + n * 6, none⟩ = some (.int .i64 h1.kind) ∧ W.cell? ⟨ba, oa + n * 6 + 1, none⟩ = some (.int .i64 h1.form) ∧ W.cell? ⟨ba, oa + n * 6 + 2, none⟩ = some (.string h1.text) ∧ W.cell? ⟨ba, oa + n * 6 + 3, none⟩ = some (.int .i64 h1.line) ∧ W.cell? ⟨ba, oa + n * 6 + 4, none⟩ = some (.int .i64 h1.col) ∧ W.cell? ⟨ba, oa + n * 6 + 5, none⟩ = some v1) := fun W hW => by
          have hc : ∀ o, W.cell? ⟨ba, o, none⟩ = wr.cell? ⟨ba, o, none⟩ := fun o => World.cell?_of_block (hW.block ba la)
          exact ⟨(hc _).trans p0, (hc _).trans p1, (hc _).trans p2, (hc _).trans p3, (hc _).trans p4, (hc _).trans p5⟩
        unfold ndV at E1 E2 E3
        have i1 : (n : Int) < (len k : Int) := by omega
        obtain ⟨w1, w2⟩ := idx_max n (len k) hp HM.out
        have HE1 : Hid ((s + (1 + sizeF k1)) + sizeF (dropF (n + 1) k) = S) := by
          have := HSN.out
          rw [e1] at this
          simp only [sizeF] at this
          unfold Hid
          omega
        have HE2 : Hid (max (max m (1 + deepF k1)) (deepF (dropF (n + 1) k)) = D) := by
          have := HDN.out
          rw [e1] at this
          simp only [deepF] at this
          unfold Hid
          omega
        have HE3 : Hid ((acc ++ leavesN h1 k1) ++ leavesF (dropF (n + 1) k) = L) := by
          have := HLN.out
          rw [e1] at this
          unfold Hid
          rw [← this, List.append_assoc]
          rfl
        have HLE : Hid (acc.length + (leavesN h1 k1).length ≤ 1099511627776) := by
          have h2 := congrArg List.length HE3.out
          have h5 := HLL.out
          simp only [List.length_append] at h2
          unfold Hid
          omega
        have HP := Lib.hid hp
        clear hp p0 p1 p2 p3 p4 p5 pk fa e1 hm hm2 hm3 HSN HDN HLN
        generalize leavesN h1 k1 = lk at E3 HE3 HLE
        obtain ⟨s1, hs1⟩ : ∃ s1, 1 + sizeF k1 = s1 := ⟨_, rfl⟩
        obtain ⟨d1, hd1⟩ : ∃ d1, 1 + deepF k1 = d1 := ⟨_, rfl⟩
        rw [hs1] at E1 HE1
        rw [hd1] at E2 HE2
        obtain ⟨y1, y2⟩ := add_wr s s1 (by have := HE1.out; have := HSD.out; omega)
        clear hs1 hd1
        obtain ⟨p0, p1, p2, p3, p4, p5⟩ := KS.out wr (Below.refl _ _)
        go_wp2_with (first
          | (go_at_call 13; refine (E1.out _ (Below.refl _ _)).mono ?_; rintro e w3 ⟨rfl, b3⟩; have B3 := Lib.hid b3; clear p0 p1 p2 p3 p4 p5; obtain ⟨p0, p1, p2, p3, p4, p5⟩ := KS.out w3 b3; clear b3)
          | (go_at_call 15; refine (E2.out _ B3.out).mono ?_; rintro e w4 ⟨rfl, b4⟩; have B4 := Lib.hid (afterL B3.out b4); clear p0 p1 p2 p3 p4 p5; obtain ⟨p0, p1, p2, p3, p4, p5⟩ := KS.out w4 B4.out; clear b4)
          | (go_at_call 18; refine (E3.out _ B4.out).mono ?_; rintro e w5 ⟨r5, rfl, o5, b5⟩; have HB5 := Lib.hid b5; have B5 := Lib.hid (afterL B4.out b5); have O5 := Lib.hid o5; have OW5 := Lib.hid (OW.out.below B5.out (Nat.le_refl _)); clear b5 o5)
          | (at_builtin; refine append_toks w5 rfl _ _ rfl X.heap.size u8 acc.length (acc.flatMap tkC) rfl OW5.out r5 lk rfl O5.out.arg (by have := HLE.out; omega) (by have := BN.out.size; have := B5.out.size; omega) ?_; intro v6 w6 h6 g6 e6; have O6 := Lib.hid (Own.cat h6); have B6 : Hid (Below X.heap.size w5 w6) := Below.grown (Below.refl _ _) g6 (by have := BN.out.size; have := B5.out.size; omega) (fun q hq => (World.ownsRow.lt OW5.out q hq).1); clear h6 g6 e6))
        refine ⟨⟨n + 1, s + s1, max m d1, acc ++ lk, by go_num, (by first | rfl | (congr 1; omega)), by go_num, HP.out, HE1, ?_, HE3, O6, (BN.out.trans (B5.out.mono BN.out.size)).trans B6.out⟩, ?_⟩
        · have := HE2.out
          unfold Hid
          exact this
        · have := HP.out
          simp [intOf]
          omega
      · have hq : n = len k := by omega
        have HSE : Hid (s = S) := by have := HSN.out; rw [hq, drop_len] at this; exact this
        have HDE : Hid (m = D) := by have := HDN.out; rw [hq, drop_len] at this; unfold Hid; simpa [deepF] using this
        have HLE : Hid (acc = L) := by have := HLN.out; rw [hq, drop_len] at this; unfold Hid; simpa [leavesF] using this
        have hse := HSE.out
        have hde := HDE.out
        have hle := HLE.out
        subst hse hde hle
        clear HSE HDE HLE hq HSN HDN HLN
        obtain ⟨y1, y2⟩ := one_wr m (by have := HSD.out; omega)
        have g1 : decide ((m : Int) < (s : Int)) = true := decide_eq_true (by have := HSD.out; omega)
        have g1n : decide (m < s) = true := decide_eq_true (by have := HSD.out; omega)
        go_upto_region 13 with fail
        refine gen_world (fun Z => Below wr.heap.size wr Z ∧ Lies Z wr.heap.size (ndO ⟨kind, 0, ⟨#[]⟩, 0, 0⟩ (.slice pa (len k) qa))) ⟨below_one wr _, Lies.new wr _⟩ ?_
        rintro Z ⟨bZ, lZ⟩
        have BZ := Lib.hid bZ
        have OZ := Lib.hid (OW.out.below bZ (Nat.le_refl _))
        have LZ := Lib.hid lZ
        have BA := Lib.hid (BW.out.trans (bZ.mono BW.out.size))
        obtain ⟨a0, a1, a2, a3, a4, a5⟩ := lZ.node
        clear bZ lZ
        dsimp only at a0 a1 a2 a3 a4
        go_wp2_with (first
          | (go_at_call 13; refine (C1.out _ BA.out).mono ?_; rintro e w3 ⟨rfl, b3⟩; have B3 := Lib.hid b3; clear a0 a1 a2 a3 a4 a5; obtain ⟨a0, a1, a2, a3, a4, a5⟩ := (LZ.out.below b3 LZ.out.lt).node; dsimp only at a0 a1 a2 a3 a4; clear b3)
          | (go_at_call 15; refine (C2.out _ (afterL BA.out B3.out)).mono ?_; rintro e w4 ⟨rfl, b4⟩; have B4 := Lib.hid (afterL B3.out b4); clear a0 a1 a2 a3 a4 a5; obtain ⟨a0, a1, a2, a3, a4, a5⟩ := (LZ.out.below B4.out LZ.out.lt).node; dsimp only at a0 a1 a2 a3 a4; clear b4)
          | (go_at_call 18; refine (C3.out _ (afterL BA.out B4.out)).mono ?_; rintro e w5 ⟨r5, rfl, o5, b5⟩; have B5 := Lib.hid (afterL B4.out b5); have A5 := Lib.hid o5.arg; have AW5 := Lib.hid (OZ.out.arg.below B5.out (Nat.le_refl _)); clear b5 o5)
          | (go_at_call 17; refine (sameall_any r5 u8 acc _ A5.out AW5.out (by have := HLL.out; omega)).mono ?_; rintro e w6 ⟨rfl, b6⟩; have B6 := Lib.hid (afterL B5.out b6); clear b6))
        go_ret
        exact ⟨by simp, afterL BA.out B6.out⟩
end Go.Proofs.YtmandanmndmnhaaDoor.Tre
