/-
  offsidelaw09's own law LayoutKeeps, where the program's All does what is told of it by the structure Does9. No condition but that.
-/
import Derived.Test.YtmcdclhfjjplnaaLayClz
namespace Go.Proofs.Ytmcdclhfjjplnaa.Lay
open Tks Mrk Go.RowKit
set_option linter.unusedSimpArgs false
set_option linter.unusedVariables false

theorem allF_err (l : List Tk) : ∀ (f : Nat) (i : Nat) (o : List Int) (w : Int) (out : List Tk), (allF l f i o w out).2 ≠ 0 → (allF l f i o w out).1 = []
  | 0, _, _, _, _ => fun _ => rfl
  | f + 1, i, o, w, out => by
    unfold allF
    split
    · exact fun _ => rfl
    · split
      · exact fun h => absurd rfl h
      · exact allF_err l f _ _ _ _
theorem allL_err (l : List Tk) : (allL l).2 ≠ 0 → (allL l).1 = [] := allF_err l _ _ _ _ _
theorem plain_of {l : List Tk} {k : Nat} (hk : l.length ≤ k) (h : ∀ j t, j < k → l[j]? = some t → t.kind < 18) : Plain l := by
  intro t ht
  obtain ⟨j, hj⟩ := List.mem_iff_getElem?.1 ht
  exact h j t (Nat.lt_of_lt_of_le (List.getElem?_eq_some_iff.1 hj).1 hk) hj
theorem filter_yes {l : List Tk} {j : Nat} {t : Tk} (h : l[j]? = some t) (hk : keepK t = true) : (l.take (j + 1)).filter keepK = (l.take j).filter keepK ++ [t] := by
  rw [List.take_add_one, h, List.filter_append]
  simp [hk]
theorem filter_no {l : List Tk} {j : Nat} {t : Tk} (h : l[j]? = some t) (hk : keepK t = false) : (l.take (j + 1)).filter keepK = (l.take j).filter keepK := by
  rw [List.take_add_one, h, List.filter_append]
  simp [hk]
set_option maxRecDepth 1000000 in
set_option maxHeartbeats 8000000 in
theorem keeps_walk (D : Does9) (v : Value) (l : List Tk) (w : World) (hv : TkArg w v l) :
    Calls Try.prog 6 #[v] w fun e w' => e = .returned (.bool true) ∧ Below w.heap.size w w' := by
  have C0 := Lib.hid (fun W => awake9_any D W)
  have CS := Lib.hid (fun W h => small_any v l W h)
  have HV := Lib.hid hv
  obtain ⟨p1, q1, rfl⟩ := hv.len
  by_cases hl : l.length ≤ 3000
  · have x1 : decide (l.length ≤ 3000) = true := decide_eq_true hl
    rw [x1] at CS
    have C1 := Lib.hid (fun W h => D.all (.slice p1 l.length q1) l W h hl)
    unfold AllOut at C1
    have C2 := Lib.hid (fun W h => refbare_any (.slice p1 l.length q1) l W h (by omega))
    have hle := allL_len l
    have HKP := Lib.hid (keeps_all l)
    have HER := Lib.hid (allL_err l)
    generalize allL l = al at *
    obtain ⟨al, ae⟩ := al
    dsimp only at C1 hle HKP HER
    have HL := Lib.hid hl
    have HLE := Lib.hid (by omega : al.length ≤ 20000)
    clear D hv hl x1 hle
    go_enter Try.func6, Try.ntmps6
    go_wp2_with (first
      | (go_at_call 9; refine (CS.out _ (HV.out.below B1.out (Nat.le_refl _))).mono ?_; rintro e w2 ⟨rfl, b2⟩; have B2 := Lib.hid (afterL B1.out b2); have V2 := Lib.hid (HV.out.below B2.out (Nat.le_refl _)); clear b2)
      | (go_at_call 10; refine (C0.out _).mono ?_; rintro e w1 ⟨rfl, b1⟩; have B1 := Lib.hid b1; clear b1))
    go_loopw [4] (fun iv wr => ∃ k : Nat, iv = .int .i64 (k : Int) ∧ wr = w2 ∧ k ≤ l.length ∧ ∀ j t, j < k → l[j]? = some t → t.kind < 18) (fun iv _ => l.length - (intOf iv).toNat)
    case atStart => exact ⟨0, rfl, rfl, by omega, fun j x hj => absurd hj (by omega)⟩
    case round =>
      obtain ⟨k, rfl, rfl, hk, hno⟩ := hrel
      have HNO := Lib.hid hno
      clear hno
      by_cases hp : k < l.length
      · obtain ⟨t, ht⟩ : ∃ t, l[k]? = some t := ⟨_, List.getElem?_eq_getElem hp⟩
        obtain ⟨ga, fa, ca, e1, ha1, ha2⟩ := V2.out.cells (by omega)
        simp only [Value.slice.injEq] at e1
        obtain ⟨rfl, -, rfl⟩ := e1
        have HA : TkIn wr ga fa l := ⟨ha1, ha2⟩
        obtain ⟨a0, a1, a2, a3⟩ := HA.four k t ht
        have HT := Lib.hid ht
        have hw5 : wrap64 ((k : Int) + 1) = (k : Int) + 1 := idx_at k l.length hp (Nat.le_trans HL.out (by decide))
        have hw4 : IntKind.i64.wrap ((k : Int) + 1) = (k : Int) + 1 := by rw [IntWalk.i64_left]; exact hw5
        have i0 : (0 : Int) ≤ (k : Int) := by omega
        have i1 : (k : Int) < (l.length : Int) := by omega
        clear HA ha1 ha2 ht
        by_cases h18 : t.kind < 18
        · have y0 : decide ((18 : Int) ≤ t.kind) = false := decide_eq_false (by omega)
          have HN2 : Hid (∀ j u, j < k + 1 → l[j]? = some u → u.kind < 18) := fun j u hj hu => by
            by_cases q : j = k
            · subst q
              rw [HT.out] at hu
              cases hu
              exact h18
            · exact HNO.out j u (by omega) hu
          clear h18
          go_wp2_with fail
          go_roundw
          case rel => exact ⟨k + 1, by go_num, by first | rfl | trivial, by omega, HN2.out⟩
          case measure => simp [intOf]; omega
        · have y0 : decide ((18 : Int) ≤ t.kind) = true := decide_eq_true (by omega)
          clear h18
          go_wp2_with fail
          go_ret
          exact ⟨rfl, B2.out⟩
      · have HP : Hid (Plain l) := plain_of (by omega) HNO.out
        have lt1 : decide ((k : Int) < (l.length : Int)) = false := decide_eq_false (by omega)
        have lt2 : decide (k < l.length) = false := decide_eq_false hp
        by_cases he : ae = 0
        · subst he
          have HK2 := Lib.hid (HKP.out HP.out rfl)
          go_wp2_with (first
            | (go_at_call 16; refine (C1.out _ V2.out).mono ?_; rintro e w3 ⟨r3, rfl, h3, b3⟩; obtain ⟨p3, q3, rfl⟩ := h3.len; have H3 := Lib.hid h3; have B3 := Lib.hid (afterL B2.out b3); clear b3 h3))
          go_loopw [7, 8] (fun bv jv wr => ∃ j : Nat, jv = .int .i64 (j : Int) ∧ j ≤ al.length ∧ Own wr w3.heap.size bv ((al.take j).filter keepK) ∧ Below w3.heap.size w3 wr) (fun _ jv _ => al.length - (intOf jv).toNat)
          case atStart => exact ⟨0, rfl, by omega, Own.nil _ _, Below.refl _ _⟩
          case round =>
            obtain ⟨j, rfl, hj, hown, hbel⟩ := hrel
            have HO := Lib.hid hown
            have HB := Lib.hid hbel
            have H4 := Lib.hid (H3.out.below hbel (Nat.le_refl _))
            clear hown hbel
            by_cases hq : j < al.length
            · obtain ⟨t, ht⟩ : ∃ t, al[j]? = some t := ⟨_, List.getElem?_eq_getElem hq⟩
              obtain ⟨ga, fa, ca, e1, ha1, ha2⟩ := H4.out.cells (by omega)
              simp only [Value.slice.injEq] at e1
              obtain ⟨rfl, -, rfl⟩ := e1
              have HA : TkIn _ ga fa al := ⟨ha1, ha2⟩
              obtain ⟨a0, a1, a2, a3⟩ := HA.four j t ht
              have HT := Lib.hid ht
              have hw5 : wrap64 ((j : Int) + 1) = (j : Int) + 1 := idx_at j al.length hq (Nat.le_trans HLE.out (by decide))
              have hw4 : IntKind.i64.wrap ((j : Int) + 1) = (j : Int) + 1 := by rw [IntWalk.i64_left]; exact hw5
              have i0 : (0 : Int) ≤ (j : Int) := by omega
              have i1 : (j : Int) < (al.length : Int) := by omega
              have HFL : Hid (((al.take j).filter keepK).length ≤ 20000) := by
                have h1 := List.length_filter_le keepK (al.take j)
                have h2 := List.length_take_le j al
                have h3 := HLE.out
                show _ ≤ _
                omega
              clear HA ha1 ha2 ht
              by_cases hk : keepK t = true
              · have HY := Lib.hid (filter_yes HT.out hk)
                unfold keepK at hk
                simp only [Bool.and_eq_true] at hk
                obtain ⟨⟨z1, z2⟩, z3⟩ := hk
                go_wp2_with (first
                  | (at_builtin; refine push_one w3 _ rfl _ _ rfl _ _ rfl HO.out HB.out t _ _ rfl (by have := HFL.out; omega) ?_; intro v4 w4 o4 b4; have O4 := Lib.hid o4; have B4 := Lib.hid b4; clear o4 b4))
                go_roundw
                case rel => exact ⟨j + 1, by go_num, by omega, by rw [HY.out]; exact O4.out, B4.out⟩
                case measure => simp [intOf]; omega
              · have hk := Bool.eq_false_iff.2 hk
                have HY := Lib.hid (filter_no HT.out hk)
                unfold keepK at hk
                by_cases k18 : t.kind = 18
                · have z1 : (t.kind != 18) = false := by rw [k18]; rfl
                  clear hk k18
                  go_wp2_with fail
                  go_roundw
                  case rel => exact ⟨j + 1, by go_num, by omega, by rw [HY.out]; exact HO.out, HB.out⟩
                  case measure => simp [intOf]; omega
                · have z1 : (t.kind != 18) = true := bne_iff_ne.2 k18
                  by_cases k19 : t.kind = 19
                  · have z2 : (t.kind != 19) = false := by rw [k19]; rfl
                    clear hk k18 k19
                    go_wp2_with fail
                    go_roundw
                    case rel => exact ⟨j + 1, by go_num, by omega, by rw [HY.out]; exact HO.out, HB.out⟩
                    case measure => simp [intOf]; omega
                  · have z2 : (t.kind != 19) = true := bne_iff_ne.2 k19
                    have z3 : (t.kind != 20) = false := by rw [z1, z2] at hk; simpa using hk
                    clear hk k18 k19
                    go_wp2_with fail
                    go_roundw
                    case rel => exact ⟨j + 1, by go_num, by omega, by rw [HY.out]; exact HO.out, HB.out⟩
                    case measure => simp [intOf]; omega
            · have lt3 : decide ((j : Int) < (al.length : Int)) = false := decide_eq_false (by omega)
              have lt4 : decide (j < al.length) = false := decide_eq_false hq
              have hw0 := Own.arg HO.out
              rw [List.take_of_length_le (by omega), HK2.out] at hw0
              have HW := Lib.hid hw0
              clear hw0
              have BW := Lib.hid (B3.out.trans (HB.out.mono (B3.out.size)))
              go_wp2_with (first
                | (go_at_call 19; refine (C2.out _ (HV.out.below BW.out (Nat.le_refl _))).mono ?_; rintro e w5 ⟨r5, rfl, h5, b5⟩; have H5 := Lib.hid h5.arg; have HW5 := Lib.hid (HW.out.below b5 (Nat.le_refl _)); have B5 := Lib.hid (afterL BW.out b5); clear h5 b5)
                | (go_at_call 18; refine (sameall_any _ _ (bareL l) _ HW5.out H5.out (by have := bareL_len l; have := HL.out; omega)).mono ?_; rintro e w6 ⟨rfl, b6⟩; have B6 := Lib.hid (afterL B5.out b6); clear b6))
              go_ret
              exact ⟨rfl, B6.out⟩
        · have x9 : (ae != 0) = true := bne_iff_ne.2 he
          obtain rfl : al = [] := HER.out he
          clear he
          go_wp2_with (first
            | (go_at_call 16; refine (C1.out _ V2.out).mono ?_; rintro e w3 ⟨r3, rfl, h3, b3⟩; obtain ⟨p3, q3, e3⟩ := h3.len; have e3 : r3 = .slice p3 0 q3 := e3; subst e3; have B3 := Lib.hid (afterL B2.out b3); clear b3 h3))
          go_ret
          exact ⟨rfl, B3.out⟩
  · have x1 : decide (l.length ≤ 3000) = false := decide_eq_false hl
    rw [x1] at CS
    clear D hv hl x1
    go_enter Try.func6, Try.ntmps6
    go_wp2_with (first
      | (go_at_call 9; refine (CS.out _ (HV.out.below B1.out (Nat.le_refl _))).mono ?_; rintro e w2 ⟨rfl, b2⟩; have B2 := Lib.hid (afterL B1.out b2); clear b2)
      | (go_at_call 10; refine (C0.out _).mono ?_; rintro e w1 ⟨rfl, b1⟩; have B1 := Lib.hid b1; clear b1))
    go_ret
    exact ⟨rfl, B2.out⟩
end Go.Proofs.Ytmcdclhfjjplnaa.Lay
