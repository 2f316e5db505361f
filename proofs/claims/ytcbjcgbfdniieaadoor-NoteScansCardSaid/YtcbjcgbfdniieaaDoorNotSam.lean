/-
  The contracts of note's Same, of the document's own, and of the document's Same of two lists. Conditions: the comments have at most 2^40 bytes, no line of them 2^32; some variable of the library's own holds some number.
-/
import Derived.Test.YtcbjcgbfdniieaaDoorNotTid
import Derived.Test.YtcbjcgbfdniieaaDoorNotRfl
namespace Go.Proofs.YtcbjcgbfdniieaaDoor.Not
open Go.RowKit Gly
set_option linter.unusedSimpArgs false
set_option linter.unusedVariables false

theorem eq_any (g h c d : Nat) (F G : List ByteArray) (hF : F.length ≤ 1125899906842624) (hG : G.length ≤ 1125899906842624) (w : World) (htF : Tx w g F) (htG : Tx w h G) :
    Calls Tryd.prog 38 #[.slice (some ⟨g, 0, none⟩) F.length c, .slice (some ⟨h, 0, none⟩) G.length d] w fun e w' => e = .returned (.bool (decide (F = G))) ∧ Below w.heap.size w w' := by
  have := AnyG.slices_Equal_string Tryd.laysSlN34_f38 g 0 F.length c h 0 G.length d F G w (Nat.le_refl _) (Nat.le_refl _) (by omega) (by omega) (fun j hj => by rw [Nat.zero_add]; exact htF.2 j hj) (fun j hj => by rw [Nat.zero_add]; exact htG.2 j hj)
  rw [List.take_length, List.take_length] at this
  refine Calls.mono this ?_
  rintro e w' ⟨rfl, q, rfl⟩
  exact ⟨rfl, below_drewN (Below.refl _ _) q⟩

theorem toList_ne {x y : ByteArray} (h : x ≠ y) : x.toList ≠ y.toList := by
  intro e
  rw [Lib.toList_data, Lib.toList_data] at e
  exact h (bytes_ext e)
set_option maxHeartbeats 2000000 in
theorem refeq_any (g h c d : Nat) (F G : List ByteArray) (hF : F.length ≤ 1125899906842624) (hG : G.length ≤ 1125899906842624) (w : World) (htF : Tx w g F) (htG : Tx w h G) :
    Calls Tryd.prog 18 #[.slice (some ⟨g, 0, none⟩) F.length c, .slice (some ⟨h, 0, none⟩) G.length d] w fun e w' => e = .returned (.bool (decide (F = G))) ∧ Below w.heap.size w w' := by
  obtain ⟨n, hn⟩ : ∃ n, F.length = n := ⟨_, rfl⟩
  obtain ⟨m, hm⟩ : ∃ m, G.length = m := ⟨_, rfl⟩
  obtain ⟨b, hb⟩ : ∃ b, decide (F = G) = b := ⟨_, rfl⟩
  rw [hn] at hF ⊢
  rw [hm] at hG ⊢
  rw [hb]
  have HN := Lib.hid hn
  have HM := Lib.hid hm
  have HB := Lib.hid hb
  have HTF := Lib.hid htF
  have HTG := Lib.hid htG
  clear hn hm hb htF htG
  by_cases hnm : n = m
  · subst hnm
    go_enter Tryd.func18, Tryd.ntmps18
    go_wp2_with fail
    go_loopw [5] (fun i wr => ∃ (k q : Nat), i = .int .i64 (k : Int) ∧ wr = w.drewN q ∧ k ≤ n ∧ ∀ j, j < k → F.getD j ByteArray.empty = G.getD j ByteArray.empty) (fun i _ => n - (intOf i).toNat)
    case atStart => exact ⟨0, 0, rfl, rfl, by omega, fun j hj => by omega⟩
    case round =>
      obtain ⟨k, q, rfl, rfl, hk, hall⟩ := hrel
      have HALL := Lib.hid hall
      clear hall
      by_cases hp : k < n
      · obtain ⟨x, hx⟩ : ∃ x, F.getD k ByteArray.empty = x := ⟨_, rfl⟩
        obtain ⟨y, hy⟩ : ∃ y, G.getD k ByteArray.empty = y := ⟨_, rfl⟩
        have cA : w.cell? ⟨g, k, none⟩ = some (.string x) := by rw [← hx]; exact HTF.out.2 k (by rw [HN.out]; exact hp)
        have cB : w.cell? ⟨h, k, none⟩ = some (.string y) := by rw [← hy]; exact HTG.out.2 k (by rw [HM.out]; exact hp)
        have HX := Lib.hid hx
        have HY := Lib.hid hy
        clear hx hy
        have i0 : (0 : Int) ≤ (k : Int) := by omega
        have i1 : (k : Int) < (n : Int) := by omega
        by_cases hxy : x = y
        · subst hxy
          go_wp2_with fail
          go_quiet (fail)
          go_wp2_with fail
          go_roundw
          case rel =>
            refine ⟨k + 1, _, by go_num, rfl, by omega, fun j hj => ?_⟩
            by_cases hjk : j = k
            · subst hjk
              rw [HX.out, HY.out]
            · exact HALL.out j (by omega)
          case measure => simp [intOf]; omega
        · have e1 := toList_ne hxy
          have e2 : (x.toList == y.toList) = false := beq_eq_false_iff_ne.2 e1
          have e3 : (x.toList != y.toList) = true := bne_iff_ne.2 e1
          have hbf : Hid (b = false) := by
            unfold Hid
            rw [← HB.out, decide_eq_false_iff_not]
            rintro rfl
            exact hxy (by rw [← HX.out, ← HY.out])
          clear hxy
          go_wp2_with fail
          go_quiet (fail)
          go_wp2_with fail
          go_ret
          rw [hbf.out]
          exact ⟨rfl, by first | exact below_drewN (Below.refl _ _) _ | exact below_drewN (below_drewN (Below.refl _ _) _) _⟩
      · obtain rfl : k = n := by omega
        have hbt : Hid (b = true) := by
          unfold Hid
          rw [← HB.out, decide_eq_true_iff]
          have h1 := HN.out
          have h2 := HM.out
          refine List.ext_getElem (by rw [h1, h2]) fun j hj1 hj2 => ?_
          have := HALL.out j (by omega)
          rw [List.getD_eq_getElem?_getD, List.getD_eq_getElem?_getD, List.getElem?_eq_getElem hj1, List.getElem?_eq_getElem hj2] at this
          exact this
        go_wp2_with fail
        go_ret
        rw [hbt.out]
        exact ⟨rfl, by first | exact below_drewN (Below.refl _ _) _ | exact below_drewN (below_drewN (Below.refl _ _) _) _⟩
  · have t0 : ((n : Int) != (m : Int)) = true := by rw [bne_iff_ne]; omega
    have hbf : Hid (b = false) := by
      unfold Hid
      rw [← HB.out, decide_eq_false_iff_not]
      rintro rfl
      exact hnm (by rw [← HN.out, ← HM.out])
    go_enter Tryd.func18, Tryd.ntmps18
    go_wp2_with fail
    go_ret
    rw [hbf.out]
    exact ⟨rfl, Below.refl _ _⟩

/-- Whether two texts are the same comment. -/
def sameB (a b : ByteArray) : Bool := decide (kindN a.data.toList ≠ 0) && (decide (kindN b.data.toList ≠ 0) && decide (barS a = barS b))
theorem sameB_first {a b : ByteArray} (h : kindN a.data.toList = 0) : sameB a b = false := by
  unfold sameB
  rw [decide_eq_false (by simp [h])]
  rfl
theorem sameB_second {a b : ByteArray} (h : kindN b.data.toList = 0) : sameB a b = false := by
  unfold sameB
  rw [decide_eq_false (p := kindN b.data.toList ≠ 0) (by simp [h]), Bool.false_and, Bool.and_false]
theorem sameB_both {a b : ByteArray} (h : kindN a.data.toList ≠ 0) (k : kindN b.data.toList ≠ 0) : sameB a b = decide (barS a = barS b) := by
  unfold sameB
  rw [decide_eq_true h, decide_eq_true k, Bool.true_and, Bool.true_and]
theorem barS_small {a : ByteArray} (h : Ok a) : (barS a).length ≤ 1125899906842624 := by
  have := barS_len a
  have := h.1
  omega

theorem Same_any (a b : ByteArray) (ha : Ok a) (hb : Ok b) (w : World) (hm : Mx w) :
    Calls Tryd.prog 21 #[.string a, .string b] w fun e w' => e = .returned (.bool (sameB a b)) ∧ Below w.heap.size w w' := by
  have hla := barS_small ha
  have hlb := barS_small hb
  by_cases ka : kindN a.data.toList = 0
  · rw [sameB_first ka]
    have C1 := Lib.hid (fun W => Lines_no a ha.size ka W)
    by_cases kb : kindN b.data.toList = 0
    · have C2 := Lib.hid (fun W => Lines_no b hb.size kb W)
      clear ka kb hla hlb
      go_enter Tryd.func21, Tryd.ntmps21
      go_wp2_with fail
      refine (C1.out _).mono ?_
      rintro e w1 ⟨rfl, hb1⟩
      have HB1 := Lib.hid hb1
      clear hb1
      go_wp2_with fail
      refine (C2.out _).mono ?_
      rintro e w2 ⟨rfl, hb2⟩
      have HB2 := Lib.hid (below_trans HB1.out hb2)
      clear hb2
      go_wp2_with fail
      go_ret
      exact ⟨rfl, HB2.out⟩
    · have C2 := Lib.hid (fun W hW => Lines_yes b hb kb W hW)
      clear ka kb hla hlb
      go_enter Tryd.func21, Tryd.ntmps21
      go_wp2_with fail
      refine (C1.out _).mono ?_
      rintro e w1 ⟨rfl, hb1⟩
      have HB1 := Lib.hid hb1
      clear hb1
      go_wp2_with fail
      refine (C2.out _ (hm.below HB1.out (Nat.le_refl _))).mono ?_
      rintro e w2 ⟨g, cap, rfl, htx, hcap, hb2⟩
      have HB2 := Lib.hid (below_trans HB1.out hb2)
      clear hb2 htx
      go_wp2_with fail
      go_ret
      exact ⟨rfl, HB2.out⟩
  · have C1 := Lib.hid (fun W hW => Lines_yes a ha ka W hW)
    by_cases kb : kindN b.data.toList = 0
    · rw [sameB_second kb]
      have C2 := Lib.hid (fun W => Lines_no b hb.size kb W)
      clear ka kb hla hlb
      go_enter Tryd.func21, Tryd.ntmps21
      go_wp2_with fail
      refine (C1.out _ hm).mono ?_
      rintro e w1 ⟨g, cap, rfl, htx, hcap, hb1⟩
      have HB1 := Lib.hid hb1
      clear hb1 htx
      go_wp2_with fail
      refine (C2.out _).mono ?_
      rintro e w2 ⟨rfl, hb2⟩
      have HB2 := Lib.hid (below_trans HB1.out hb2)
      clear hb2
      go_wp2_with fail
      go_ret
      exact ⟨rfl, HB2.out⟩
    · rw [sameB_both ka kb]
      have C2 := Lib.hid (fun W hW => Lines_yes b hb kb W hW)
      have C3 := Lib.hid (fun g h c d => eq_any g h c d (barS a) (barS b) hla hlb)
      generalize barS a = F at *
      generalize barS b = G at *
      generalize F.length = n at *
      generalize G.length = m at *
      generalize decide (F = G) = r at *
      clear ka kb hla hlb
      go_enter Tryd.func21, Tryd.ntmps21
      go_wp2_with fail
      refine (C1.out _ hm).mono ?_
      rintro e w1 ⟨g, cap, rfl, htx, hcap, hb1⟩
      have HB1 := Lib.hid hb1
      have HTX := Lib.hid htx
      clear hb1 htx
      go_wp2_with fail
      refine (C2.out _ (hm.below HB1.out (Nat.le_refl _))).mono ?_
      rintro e w2 ⟨g2, cap2, rfl, htx2, hcap2, hb2⟩
      have HB2 := Lib.hid (below_trans HB1.out hb2)
      have HTX1 := Lib.hid (HTX.out.below hb2)
      have HTX2 := Lib.hid htx2
      clear hb2 htx2
      go_wp2_with fail
      refine (C3.out g g2 cap cap2 _ HTX1.out HTX2.out).mono ?_
      rintro e w3 ⟨rfl, hb3⟩
      have HB3 := Lib.hid (below_trans HB2.out hb3)
      clear hb3
      go_wp2_with fail
      go_ret
      exact ⟨rfl, HB3.out⟩

theorem refSames_any (a b : ByteArray) (ha : Ok a) (hb : Ok b) (w : World) :
    Calls Tryd.prog 22 #[.string a, .string b] w fun e w' => e = .returned (.bool (sameB a b)) ∧ Below w.heap.size w w' := by
  have hla := barS_small ha
  have hlb := barS_small hb
  by_cases ka : kindN a.data.toList = 0
  · rw [sameB_first ka]
    have C1 := Lib.hid (fun W => refLines_no a ha.size ka W)
    by_cases kb : kindN b.data.toList = 0
    · have C2 := Lib.hid (fun W => refLines_no b hb.size kb W)
      clear ka kb hla hlb
      go_enter Tryd.func22, Tryd.ntmps22
      go_wp2_with fail
      refine (C1.out _).mono ?_
      rintro e w1 ⟨rfl, hb1⟩
      have HB1 := Lib.hid hb1
      clear hb1
      go_wp2_with fail
      refine (C2.out _).mono ?_
      rintro e w2 ⟨rfl, hb2⟩
      have HB2 := Lib.hid (below_trans HB1.out hb2)
      clear hb2
      go_wp2_with fail
      go_ret
      exact ⟨rfl, HB2.out⟩
    · have C2 := Lib.hid (fun W => refLines_yes b hb kb W)
      clear ka kb hla hlb
      go_enter Tryd.func22, Tryd.ntmps22
      go_wp2_with fail
      refine (C1.out _).mono ?_
      rintro e w1 ⟨rfl, hb1⟩
      have HB1 := Lib.hid hb1
      clear hb1
      go_wp2_with fail
      refine (C2.out _).mono ?_
      rintro e w2 ⟨g, cap, rfl, htx, hcap, hb2⟩
      have HB2 := Lib.hid (below_trans HB1.out hb2)
      clear hb2 htx
      go_wp2_with fail
      go_ret
      exact ⟨rfl, HB2.out⟩
  · have C1 := Lib.hid (fun W => refLines_yes a ha ka W)
    by_cases kb : kindN b.data.toList = 0
    · rw [sameB_second kb]
      have C2 := Lib.hid (fun W => refLines_no b hb.size kb W)
      clear ka kb hla hlb
      go_enter Tryd.func22, Tryd.ntmps22
      go_wp2_with fail
      refine (C1.out _).mono ?_
      rintro e w1 ⟨g, cap, rfl, htx, hcap, hb1⟩
      have HB1 := Lib.hid hb1
      clear hb1 htx
      go_wp2_with fail
      refine (C2.out _).mono ?_
      rintro e w2 ⟨rfl, hb2⟩
      have HB2 := Lib.hid (below_trans HB1.out hb2)
      clear hb2
      go_wp2_with fail
      go_ret
      exact ⟨rfl, HB2.out⟩
    · rw [sameB_both ka kb]
      have C2 := Lib.hid (fun W => refLines_yes b hb kb W)
      have C3 := Lib.hid (fun g h c d => refeq_any g h c d (barS a) (barS b) hla hlb)
      generalize barS a = F at *
      generalize barS b = G at *
      generalize F.length = n at *
      generalize G.length = m at *
      generalize decide (F = G) = r at *
      clear ka kb hla hlb
      go_enter Tryd.func22, Tryd.ntmps22
      go_wp2_with fail
      refine (C1.out _).mono ?_
      rintro e w1 ⟨g, cap, rfl, htx, hcap, hb1⟩
      have HB1 := Lib.hid hb1
      have HTX := Lib.hid htx
      clear hb1 htx
      go_wp2_with fail
      refine (C2.out _).mono ?_
      rintro e w2 ⟨g2, cap2, rfl, htx2, hcap2, hb2⟩
      have HB2 := Lib.hid (below_trans HB1.out hb2)
      have HTX1 := Lib.hid (HTX.out.below hb2)
      have HTX2 := Lib.hid htx2
      clear hb2 htx2
      go_wp2_with fail
      refine (C3.out g g2 cap cap2 _ HTX1.out HTX2.out).mono ?_
      rintro e w3 ⟨rfl, hb3⟩
      have HB3 := Lib.hid (below_trans HB2.out hb3)
      clear hb3
      go_wp2_with fail
      go_ret
      exact ⟨rfl, HB3.out⟩
end Go.Proofs.YtcbjcgbfdniieaaDoor.Not
