/-
  offsidelaw08's law MarkOnce, where the program's Opens, Mark and Bare do what is told of them by the structure Does. Conditions: at most 2^37 tokens, texts of at most 4294967280 bytes.
-/
import Derived.Test.YthjckmoobbpidaaMrkBck
namespace Go.Proofs.Ythjckmoobbpidaa.Mrk
open Tks Go.RowKit
set_option linter.unusedSimpArgs false
set_option linter.unusedVariables false

theorem text_empty {t : Tk} (h : tx t = []) : t.text = ⟨#[]⟩ := by
  obtain ⟨k, ⟨⟨d⟩⟩, l, c⟩ := t
  have h : d = [] := h
  subst h
  rfl
set_option maxRecDepth 1000000 in
set_option maxHeartbeats 8000000 in
theorem once_walk (nl : ByteArray → Int) (M : World → Prop) (D : Does nl M) (v : Value) (l : List Tk) (w : World) (ha : TkArg w v l) (F : Small l) (hM : M w) :
    Calls Try.prog 7 #[v] w fun e w' => e = .returned (.bool true) ∧ Below w.heap.size w w' := by
  have C0 := Lib.hid (fun W h => awake_any nl M D W h)
  have KM : Hid (∀ W', Below w.heap.size w W' → M W') := fun W' h => D.keep w W' hM h
  obtain ⟨a, c, rfl⟩ := ha.len
  have C1 := Lib.hid (fun v W g h => D.mark v l W g h F)
  have C2 := Lib.hid D.opens
  have HM := Lib.hid F.1
  have HA := Lib.hid ha
  clear D F ha hM
  go_enter Try.func7, Try.ntmps7
  go_wp2_with (first
    | (go_at_call 9; refine (C0.out _ (KM.out _ (Below.refl _ _))).mono ?_; rintro e w1 ⟨rfl, hb1⟩; have B1 := Lib.hid hb1; have A1 := Lib.hid (HA.out.below hb1 (Nat.le_refl _)); clear hb1))
  go_loopw [4] (fun i wr => ∃ k : Nat, i = .int .i64 (k : Int) ∧ wr = w1 ∧ k ≤ l.length ∧ ∀ j x, j < k → l[j]? = some x → isMark x = false) (fun i _ => l.length - (intOf i).toNat)
  case atStart => exact ⟨0, rfl, rfl, by omega, fun j x hj => absurd hj (by omega)⟩
  case round =>
    obtain ⟨k, rfl, rfl, hk, hno⟩ := hrel
    have HNO := Lib.hid hno
    clear hno
    by_cases hp : k < l.length
    · obtain ⟨t, ht⟩ : ∃ t, l[k]? = some t := ⟨_, List.getElem?_eq_getElem hp⟩
      obtain ⟨ga, oa, ca, e1, h1, h2⟩ := A1.out.cells (by omega)
      simp only [Value.slice.injEq] at e1
      obtain ⟨rfl, -, rfl⟩ := e1
      have HI : Hid (TkIn wr ga oa l) := ⟨h1, h2⟩
      obtain ⟨a0, a1, a2, a3⟩ := HI.out.four k t ht
      have HW := Lib.hid (idx_at k l.length hp (Nat.le_trans HM.out (by decide)))
      have HT := Lib.hid ht
      have i0 : (0 : Int) ≤ (k : Int) := by omega
      have i1 : (k : Int) < (l.length : Int) := by omega
      clear ht h1 h2
      rcases mark_cases t with ⟨h1, h2⟩ | ⟨h1, h2⟩ | ⟨h1, h2, h3⟩
      · have x1 : (t.kind == 16) = true := by rw [beq_iff_eq]; exact h1
        clear h1 h2
        go_wp2_with fail
        go_ret
        exact ⟨rfl, B1.out⟩
      · have x1 : (t.kind == 16) = false := by rw [beq_eq_false_iff_ne, h1]; decide
        have x2 : (t.kind == 17) = true := by rw [beq_iff_eq]; exact h1
        clear h1 h2
        go_wp2_with fail
        go_ret
        exact ⟨rfl, B1.out⟩
      · have x1 : (t.kind == 16) = false := by rw [beq_eq_false_iff_ne]; exact h1
        have x2 : (t.kind == 17) = false := by rw [beq_eq_false_iff_ne]; exact h2
        have HN := Lib.hid (none_next HNO.out HT.out h3)
        clear h1 h2 h3
        go_wp2_with fail
        go_roundw
        case rel =>
          rw [HW.out]
          exact ⟨k + 1, by go_num, trivial, by omega, HN.out⟩
        case measure =>
          rw [HW.out]
          simp [intOf]
          omega
    · have hon := mark_once nl l (none_all HNO.out hp)
      have hpos := (mark_len nl l).1
      have hlen := (mark_len nl l).2
      generalize markL nl l = ML at C1 hon hpos hlen
      have hm2 : ML.length ≤ 3518437208880 := by have := HM.out; omega
      have HON := Lib.hid hon
      have HPOS := Lib.hid hpos
      have HML := Lib.hid hm2
      have gt0 : decide ((0 : Int) < (ML.length : Int)) = true := decide_eq_true (by omega)
      clear hon hlen hm2 HNO
      go_wp2_with (first
        | (go_at_call 13; refine (C1.out _ _ (KM.out _ B1.out) A1.out).mono ?_; rintro e w2 ⟨r2, rfl, hr2, hb2, -⟩; have B2 := Lib.hid (after B1.out hb2); obtain ⟨g, o, q, rfl, g1, g2⟩ := hr2.cells (by have := HPOS.out; omega); have HI : Hid (TkIn w2 g o ML) := ⟨g1, g2⟩; clear hb2 hr2 g1 g2))
      go_loopw [6] (fun i wx => ∃ k : Nat, i = .int .i64 (k : Int) ∧ k ≤ ML.length ∧ Below w2.heap.size w2 wx) (fun i _ => ML.length - (intOf i).toNat)
      case atStart => exact ⟨0, rfl, by omega, Below.refl _ _⟩
      case round =>
        obtain ⟨m, rfl, hmk, hbx⟩ := hrel
        have HBX := Lib.hid hbx
        clear hbx
        by_cases hp2 : m < ML.length
        · obtain ⟨t, ht⟩ : ∃ t, ML[m]? = some t := ⟨_, List.getElem?_eq_getElem hp2⟩
          have HI2 := Lib.hid (HI.out.below HBX.out (Nat.le_refl _))
          obtain ⟨a0, a1, a2, a3⟩ := HI2.out.four m t ht
          have HW := Lib.hid (idx_at m ML.length hp2 HML.out)
          have hw4 : IntKind.i64.wrap ((m : Int) + 1) = (m : Int) + 1 := by rw [IntWalk.i64_left]; exact HW.out
          have hw5 : wrap64 ((m : Int) + 1) = (m : Int) + 1 := HW.out
          have i0 : (0 : Int) ≤ (m : Int) := by omega
          have i1 : (m : Int) < (ML.length : Int) := by omega
          by_cases hmt : isMark t = true
          · obtain ⟨o1, o2, o3⟩ := once_at HON.out m t ht hmt
            have ht0 := text_empty o1
            obtain ⟨tk, tt, tl, tc⟩ := t
            dsimp only at ht0 a0 a1 a2 a3
            subst ht0
            have HO2 := Lib.hid o2
            have HO3 := Lib.hid o3
            have HT := Lib.hid ht
            clear o1 o2 o3 ht
            rcases (mark_cases ⟨tk, ⟨#[]⟩, tl, tc⟩ : (tk = 16 ∧ _) ∨ (tk = 17 ∧ _) ∨ (tk ≠ 16 ∧ tk ≠ 17 ∧ _)) with ⟨rfl, -⟩ | ⟨rfl, -⟩ | ⟨-, -, h⟩
            · by_cases hm0 : m = 0
              · have gt1 : decide ((0 : Int) < (m : Int)) = false := decide_eq_false (by omega)
                have gt2 : decide (0 < m) = false := decide_eq_false (by omega)
                clear hmt HO2 hm0
                go_upto_region 14 with fail
                by_cases hl2 : m + 1 < ML.length
                · obtain ⟨u, hu⟩ : ∃ u, ML[m + 1]? = some u := ⟨_, List.getElem?_eq_getElem hl2⟩
                  obtain ⟨u1, u2, u3⟩ := HO3.out u hu
                  obtain ⟨e0, e1, e2, e3⟩ := HI2.out.four (m + 1) u hu
                  have hk2 := mark_cases u
                  rw [u1] at hk2
                  clear hu
                  obtain ⟨uk, ut, ul, uc⟩ := u
                  dsimp only at u2 u3 e0 e1 e2 e3 hk2
                  subst u2 u3
                  have z1 : (uk == 16) = false := by
                    rcases hk2 with ⟨-, h⟩ | ⟨-, h⟩ | ⟨h, -, -⟩
                    · cases h
                    · cases h
                    · exact beq_eq_false_iff_ne.2 h
                  have z2 : (uk == 17) = false := by
                    rcases hk2 with ⟨-, h⟩ | ⟨-, h⟩ | ⟨-, h, -⟩
                    · cases h
                    · cases h
                    · exact beq_eq_false_iff_ne.2 h
                  have i3 : (m : Int) + 1 < (ML.length : Int) := by omega
                  have i4 : (0 : Int) ≤ (m : Int) + 1 := by omega
                  have i5 : decide ((m : Int) + 1 < (ML.length : Int)) = true := decide_eq_true i3
                  clear hk2 u1
                  go_wp2_with fail
                  go_quiet (fail)
                  go_wp2_with fail
                  refine ⟨by first | exact ⟨m + 1, by go_num, by omega, below_drewN HBX.out _⟩ | ((repeat apply Exists.intro); exact ⟨⟨m + 1, by go_num, by omega, below_drewN HBX.out _⟩, rfl⟩), ?_⟩
                  simp [intOf]
                  omega
                · have i5 : decide ((m : Int) + 1 < (ML.length : Int)) = false := decide_eq_false (by omega)
                  go_wp2_with fail
                  go_quiet (fail)
                  go_wp2_with fail
                  refine ⟨by first | exact ⟨m + 1, by go_num, by omega, below_drewN HBX.out _⟩ | ((repeat apply Exists.intro); exact ⟨⟨m + 1, by go_num, by omega, below_drewN HBX.out _⟩, rfl⟩), ?_⟩
                  simp [intOf]
                  omega
              · obtain ⟨j, hj⟩ : ∃ j, m = j + 1 := ⟨m - 1, by omega⟩
                have gt1 : decide ((0 : Int) < (m : Int)) = true := decide_eq_true (by omega)
                have gt2 : decide (0 < m) = true := decide_eq_true (by omega)
                obtain ⟨p, hp3⟩ : ∃ p, ML[j]? = some p := ⟨_, List.getElem?_eq_getElem (by omega)⟩
                have hop := HO2.out rfl p (by rw [if_neg hm0, hj, Nat.add_sub_cancel]; exact hp3)
                have HOP : Hid (∀ W, Calls Try.prog 10 #[.agg #[.int .i64 p.kind, .string p.text, .int .i64 p.line, .int .i64 p.col]] W fun e w' => e = .returned (.bool true) ∧ Below W.heap.size W w') := fun W => by
                  have := C2.out p W
                  rw [hop] at this
                  exact this
                obtain ⟨p0, p1, p2, p3⟩ := HI2.out.four j p hp3
                have hs : ((m : Int) - 1) = (j : Int) := by omega
                have hw2 : wrap64 ((m : Int) - 1) = (j : Int) := by
                  have h1 := HML.out
                  rw [hs]
                  exact IntWalk.wrap64_in _ ⟨by omega, by omega⟩
                have hw1 : IntKind.i64.wrap ((m : Int) - 1) = (j : Int) := by rw [IntWalk.i64_left]; exact hw2
                have j0 : (0 : Int) ≤ (j : Int) := by omega
                have j1 : (j : Int) < (ML.length : Int) := by omega
                clear hmt HO2 hp3 hop hm0 hs hj
                go_upto_region 14 with (first | (go_at_call 10; refine (HOP.out _).mono ?_; rintro e w3 ⟨rfl, hb3⟩; have HB3 := Lib.hid (after HBX.out hb3); have HI3 := Lib.hid (HI.out.below HB3.out (Nat.le_refl _)); obtain ⟨f0, f1, f2, f3⟩ := HI3.out.four m _ HT.out; dsimp only at f0 f1 f2 f3; clear hb3))
                by_cases hl2 : m + 1 < ML.length
                · obtain ⟨u, hu⟩ : ∃ u, ML[m + 1]? = some u := ⟨_, List.getElem?_eq_getElem hl2⟩
                  obtain ⟨u1, u2, u3⟩ := HO3.out u hu
                  obtain ⟨e0, e1, e2, e3⟩ := HI3.out.four (m + 1) u hu
                  have hk2 := mark_cases u
                  rw [u1] at hk2
                  clear hu
                  obtain ⟨uk, ut, ul, uc⟩ := u
                  dsimp only at u2 u3 e0 e1 e2 e3 hk2
                  subst u2 u3
                  have z1 : (uk == 16) = false := by
                    rcases hk2 with ⟨-, h⟩ | ⟨-, h⟩ | ⟨h, -, -⟩
                    · cases h
                    · cases h
                    · exact beq_eq_false_iff_ne.2 h
                  have z2 : (uk == 17) = false := by
                    rcases hk2 with ⟨-, h⟩ | ⟨-, h⟩ | ⟨-, h, -⟩
                    · cases h
                    · cases h
                    · exact beq_eq_false_iff_ne.2 h
                  have i3 : (m : Int) + 1 < (ML.length : Int) := by omega
                  have i4 : (0 : Int) ≤ (m : Int) + 1 := by omega
                  have i5 : decide ((m : Int) + 1 < (ML.length : Int)) = true := decide_eq_true i3
                  clear hk2 u1
                  go_wp2_with fail
                  go_quiet (fail)
                  go_wp2_with fail
                  refine ⟨by first | exact ⟨m + 1, by go_num, by omega, below_drewN HB3.out _⟩ | ((repeat apply Exists.intro); exact ⟨⟨m + 1, by go_num, by omega, below_drewN HB3.out _⟩, rfl⟩), ?_⟩
                  simp [intOf]
                  omega
                · have i5 : decide ((m : Int) + 1 < (ML.length : Int)) = false := decide_eq_false (by omega)
                  go_wp2_with fail
                  go_quiet (fail)
                  go_wp2_with fail
                  refine ⟨by first | exact ⟨m + 1, by go_num, by omega, below_drewN HB3.out _⟩ | ((repeat apply Exists.intro); exact ⟨⟨m + 1, by go_num, by omega, below_drewN HB3.out _⟩, rfl⟩), ?_⟩
                  simp [intOf]
                  omega
            · clear hmt HO2
              go_upto_region 14 with fail
              by_cases hl2 : m + 1 < ML.length
              · obtain ⟨u, hu⟩ : ∃ u, ML[m + 1]? = some u := ⟨_, List.getElem?_eq_getElem hl2⟩
                obtain ⟨u1, u2, u3⟩ := HO3.out u hu
                obtain ⟨e0, e1, e2, e3⟩ := HI2.out.four (m + 1) u hu
                have hk2 := mark_cases u
                rw [u1] at hk2
                clear hu
                obtain ⟨uk, ut, ul, uc⟩ := u
                dsimp only at u2 u3 e0 e1 e2 e3 hk2
                subst u2 u3
                have z1 : (uk == 16) = false := by
                  rcases hk2 with ⟨-, h⟩ | ⟨-, h⟩ | ⟨h, -, -⟩
                  · cases h
                  · cases h
                  · exact beq_eq_false_iff_ne.2 h
                have z2 : (uk == 17) = false := by
                  rcases hk2 with ⟨-, h⟩ | ⟨-, h⟩ | ⟨-, h, -⟩
                  · cases h
                  · cases h
                  · exact beq_eq_false_iff_ne.2 h
                have i3 : (m : Int) + 1 < (ML.length : Int) := by omega
                have i4 : (0 : Int) ≤ (m : Int) + 1 := by omega
                have i5 : decide ((m : Int) + 1 < (ML.length : Int)) = true := decide_eq_true i3
                clear hk2 u1
                go_wp2_with fail
                go_quiet (fail)
                go_wp2_with fail
                refine ⟨by first | exact ⟨m + 1, by go_num, by omega, below_drewN HBX.out _⟩ | ((repeat apply Exists.intro); exact ⟨⟨m + 1, by go_num, by omega, below_drewN HBX.out _⟩, rfl⟩), ?_⟩
                simp [intOf]
                omega
              · have i5 : decide ((m : Int) + 1 < (ML.length : Int)) = false := decide_eq_false (by omega)
                go_wp2_with fail
                go_quiet (fail)
                go_wp2_with fail
                refine ⟨by first | exact ⟨m + 1, by go_num, by omega, below_drewN HBX.out _⟩ | ((repeat apply Exists.intro); exact ⟨⟨m + 1, by go_num, by omega, below_drewN HBX.out _⟩, rfl⟩), ?_⟩
                simp [intOf]
                omega
            · rw [h] at hmt
              cases hmt
          · rcases mark_cases t with ⟨-, h⟩ | ⟨-, h⟩ | ⟨h1, h2, -⟩
            · exact absurd h hmt
            · exact absurd h hmt
            · have x1 : (t.kind != 16) = true := by rw [bne_iff_ne]; exact h1
              have x2 : (t.kind != 17) = true := by rw [bne_iff_ne]; exact h2
              clear h1 h2 hmt ht
              go_wp2_with fail
              refine ⟨by first | exact ⟨m + 1, by go_num, by omega, HBX.out⟩ | ((repeat apply Exists.intro); exact ⟨⟨m + 1, by go_num, by omega, HBX.out⟩, rfl⟩), ?_⟩
              simp [intOf]
              omega
        · go_wp2_with fail
          go_ret
          exact ⟨rfl, after B2.out HBX.out⟩
end Go.Proofs.Ythjckmoobbpidaa.Mrk
