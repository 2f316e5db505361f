/-
  The contract of the document's own Split, and the walk of WordSplits. Condition: a string has at most 2^47 bytes, as every row's input has.
-/
import Derived.Test.YtkabgeimcpkpgaaWrdRefk
namespace Go.Proofs.Ytkabgeimcpkpgaa.Wrd
open Go.RowKit Gly
set_option linter.unusedSimpArgs false

theorem refsplit_q3 (s : ByteArray) (hs : s.size ≤ 140737488351232) (hk : kindI s = 3) (w : World) :
    Calls Try.prog 16 #[.string s] w fun x w' => x = .returned (.tuple #[.string (splitI s).1, .string (splitI s).2.1, .int .i64 (splitI s).2.2]) ∧ Below w.heap.size w w' := by
  obtain ⟨pt, p1, p2, hr, -⟩ := parts s (by omega)
  obtain ⟨pt', e1, -, -, s1, s2, s3⟩ := wholeI_point s (by change kindI s = 3 ∨ kindI s = 4 ∨ kindI s = 7 ∨ kindI s = 8; omega)
  have hpt : pt' = pt := by
    have h9 := congrArg (fun t => t.1.size) hr
    have h8 : splitI s = (s.extract 0 pt', s.extract (pt' + 1) s.size, 0) := by
      unfold splitI
      rw [if_pos (by change kindI s = 3 ∨ kindI s = 4 ∨ kindI s = 7 ∨ kindI s = 8; omega), e1, Int.toNat_natCast]
    rw [h8] at h9
    have z : ∀ m, m < s.size → (s.extract 0 m).size = m := fun m hm => by rw [Lib.size_eq, Lib.extract_data, List.length_take, List.length_drop, ← Lib.size_eq]; omega
    dsimp only at h9
    rw [z pt p2] at h9
    rcases Nat.lt_or_ge pt' s.size with h | h
    · rw [z pt' h] at h9
      exact h9
    · have : (s.extract 0 pt').size = s.size := by rw [Lib.size_eq, Lib.extract_data, List.length_take, List.length_drop, ← Lib.size_eq]; omega
      rw [this] at h9
      omega
  subst hpt
  have hw : (wholeI s).1 = 3 := hk
  rw [hw] at s1
  have hsc : scan (rest s 0) = (3, s.size, pt') := by
    apply Prod.ext
    · exact s1
    · apply Prod.ext
      · exact s2
      · exact s3
  have hpart : (part (rest s 0)).1 = 2 := by
    by_cases h : (part (rest s 0)).1 = 2
    · exact h
    · exfalso
      have h0 : (part (rest s 0)).1 ≠ 0 := by
        intro z
        rw [scan_none _ z] at hsc
        exact absurd (congrArg Prod.fst hsc) (by dsimp only; decide)
      have pk := part_kind (rest s 0)
      have hf := scan_of_lex (Lex.first h0) (.inl (by omega))
      rw [hf] at hsc
      have := congrArg Prod.fst hsc
      dsimp only at this
      omega
  have hc : classI (rn (rest s 0)) = 3 ∧ part (rest s 0) = (2, run nameB (rest s 0)) := by
    rcases part_cases (rest s 0) with ⟨e, _⟩ | ⟨_, c, e⟩ | ⟨_, c, e⟩ | ⟨_, c, e⟩ | ⟨_, c, e⟩
    · rw [e] at hpart
      cases hpart
    · rw [e] at hpart
      dsimp only at hpart
      rcases smallK_cases (bts ((rest s 0).take (run nameB (rest s 0)))) with z | z <;> (rw [z] at hpart; cases hpart)
    · exact ⟨c, e⟩
    · rw [e] at hpart
      dsimp only at hpart
      rcases symK_cases (bts ((rest s 0).take (run symP (rest s 0)))) with z | z | z <;> (rw [z] at hpart; cases hpart)
    · rw [e] at hpart
      cases hpart
  have hstart : grow (rest s 0).length (rest s 0) 2 (run nameB (rest s 0)) 0 = scan (rest s 0) := by
    unfold scan
    rw [hc.2]
  have hl := rest_len s 0
  have hle := run_le nameB _ (rest s 0) (Nat.le_refl _)
  have c0 := fun W => refname_any s 0 (by omega) (Nat.zero_le _) W
  rw [Nat.zero_add] at c0
  have c1 := fun W => refkind_any s (by omega) W
  rw [hk] at c1
  rw [hsc] at hstart
  generalize run nameB (rest s 0) = m0 at *
  have C0 := Lib.hid c0
  have C1 := Lib.hid c1
  have HS := Lib.hid hstart
  have HR := Lib.hid hr
  clear c0 c1 hstart hr hc hpart hsc s1 s2 s3 e1 hw hk
  go_enter Try.func16, Try.ntmps16
  go_wp2_with fail
  refine (C1.out _).mono ?_
  rintro e w1 ⟨rfl, hb1⟩
  have HB1 := Lib.hid hb1
  clear hb1
  go_wp2_with fail
  refine (C0.out _).mono ?_
  rintro e w9 ⟨rfl, rfl⟩
  go_wp2_with fail
  go_loop [5, 6] (fun lv iv => ∃ (l m : Nat), lv = .int .i64 (l : Int) ∧ iv = .int .i64 (m : Int) ∧ m ≤ s.size ∧ ((∃ (kk : Int) (f : Nat), (kk = 2 ∨ kk = 4) ∧ grow f (rest s 0) kk m l = (3, s.size, pt') ∧ s.size ≤ m + f) ∨ (m = s.size ∧ l = pt'))) (fun _ iv => s.size - (intOf iv).toNat)
  case atStart => exact ⟨0, m0, rfl, rfl, by omega, .inl ⟨2, (rest s 0).length, .inl rfl, HS.out, by omega⟩⟩
  case round =>
    obtain ⟨l, m, rfl, rfl, hm, hq⟩ := hrel
    have hend : ¬ m < s.size → l = pt' := by
      intro h
      rcases hq with ⟨kk, f, hkk, hg, hf⟩ | ⟨_, e⟩
      · rw [grow_final f (rest s 0) kk m l (.inr (more_end _ _ (by omega)))] at hg
        exact congrArg (fun t => t.2.2) hg
      · exact e
    by_cases h1 : m < s.size
    · obtain ⟨kk, f, hkk, hg, hf⟩ : ∃ (kk : Int) (f : Nat), (kk = 2 ∨ kk = 4) ∧ grow f (rest s 0) kk m l = (3, s.size, pt') ∧ s.size ≤ m + f := by
        rcases hq with h | ⟨h, _⟩
        · exact h
        · omega
      clear hq hend
      have hd : (rest s 0).drop m = rest s m := by rw [rest_drop, Nat.zero_add]
      have hmo : (more (rest s m)).1 ≠ 0 := by
        intro z
        rw [grow_final f (rest s 0) kk m l (.inr (by rw [hd]; exact z))] at hg
        have := congrArg (fun t => t.2.1) hg
        dsimp only at this
        omega
      have h2 : s[m].toNat = 46 := by
        by_cases h : s[m].toNat = 46
        · exact h
        · exact absurd (more_off s m (.inr ⟨h1, h⟩)) hmo
      have h3 : m + 1 < s.size := by
        by_cases h : m + 1 < s.size
        · exact h
        · exact absurd (more_off s m (.inl h)) hmo
      have hma := more_at s m h3 h2
      have hf1 : f = (f - 1) + 1 := by omega
      have hgn := grow_next (f - 1) (rest s 0) kk m l hkk (by rw [hd]; exact hmo)
      rw [← hf1, hg, hd] at hgn
      have b1 : (((s[m].toNat : Nat) : Int) == 46) = true := by rw [beq_iff_eq]; omega
      have c1 := fun W => refcls_any s ((m + 1 : Nat) : Int) (by omega) W
      rw [clsI_in s (m + 1) h3] at c1
      dsimp only at c1
      have hlr := rest_len s (m + 1)
      clear hf1 hg hd h2
      rcases part_cases (rest s (m + 1)) with ⟨e, _⟩ | ⟨_, c, e⟩ | ⟨_, c, e⟩ | ⟨_, c, e⟩ | ⟨_, c, e⟩
      · rw [hma, e] at hmo
        exact absurd rfl hmo
      · rw [e] at hma
        dsimp only at hma
        have hr := run_le nameB _ (rest s (m + 1)) (Nat.le_refl _)
        have hma' : more (rest s m) = (3, 1 + run nameB (rest s (m + 1))) := by
          rcases smallK_cases (bts ((rest s (m + 1)).take (run nameB (rest s (m + 1))))) with z | z
          · rw [z] at hma
            rw [hma] at hmo
            exact absurd rfl hmo
          · rw [z] at hma
            exact hma
        rw [hma'] at hgn
        dsimp only at hgn
        rw [grow_final (f - 1) (rest s 0) 3 _ m (.inl (by decide))] at hgn
        have g2 := congrArg (fun t => t.2.1) hgn
        have g3 := congrArg (fun t => t.2.2) hgn
        dsimp only at g2 g3
        have c2 := fun W => refname_any s (m + 1) (by omega) (by omega) W
        rw [c] at c1
        clear e c hma hma' hgn hmo
        generalize run nameB (rest s (m + 1)) = r at *
        have C1 := Lib.hid c1
        have C2 := Lib.hid c2
        have G2 := Lib.hid g2
        have G3 := Lib.hid g3
        clear c1 c2 g2 g3
        go_wp2_with fail
        refine (C1.out _).mono ?_
        rintro e w9 ⟨rfl, rfl⟩
        go_wp2_with fail
        refine (C2.out _).mono ?_
        rintro e w9 ⟨rfl, rfl⟩
        go_wp2_with fail
        go_round
        case rel => exact ⟨m, m + 1 + r, rfl, by go_num, by omega, .inr ⟨by have := G2.out; omega, G3.out.symm⟩⟩
        case measure => simp [intOf]; omega
      · rw [e] at hma
        have hma' : more (rest s m) = (4, 1 + run nameB (rest s (m + 1))) := hma
        have hr := run_le nameB _ (rest s (m + 1)) (Nat.le_refl _)
        rw [hma'] at hgn
        dsimp only at hgn
        have c2 := fun W => refname_any s (m + 1) (by omega) (by omega) W
        rw [c] at c1
        clear e c hma hma' hmo
        generalize run nameB (rest s (m + 1)) = r at *
        have C1 := Lib.hid c1
        have C2 := Lib.hid c2
        have HG := Lib.hid hgn
        clear c1 c2 hgn
        go_wp2_with fail
        refine (C1.out _).mono ?_
        rintro e w9 ⟨rfl, rfl⟩
        go_wp2_with fail
        refine (C2.out _).mono ?_
        rintro e w9 ⟨rfl, rfl⟩
        go_wp2_with fail
        go_round
        case rel => exact ⟨m, m + 1 + r, rfl, by go_num, by omega, .inl ⟨4, f - 1, .inr rfl, by rw [HG.out, Nat.add_assoc], by omega⟩⟩
        case measure => simp [intOf]; omega
      · rw [e] at hma
        dsimp only at hma
        have g3 : m = pt' := by
          rcases symK_cases (bts ((rest s (m + 1)).take (run symP (rest s (m + 1))))) with z | z | z
          · rw [z] at hma
            rw [hma] at hmo
            exact absurd rfl hmo
          · rw [z] at hma
            have hma' : more (rest s m) = (8, 1 + run symP (rest s (m + 1))) := hma
            rw [hma'] at hgn
            dsimp only at hgn
            rw [grow_final (f - 1) (rest s 0) 8 _ m (.inl (by decide))] at hgn
            exact (congrArg (fun t => t.2.2) hgn).symm
          · rw [z] at hma
            have hma' : more (rest s m) = (7, 1 + run symP (rest s (m + 1))) := hma
            rw [hma'] at hgn
            dsimp only at hgn
            rw [grow_final (f - 1) (rest s 0) 7 _ m (.inl (by decide))] at hgn
            exact (congrArg (fun t => t.2.2) hgn).symm
        rw [c] at c1
        subst g3
        clear e c hma hmo hgn
        have C1 := Lib.hid c1
        have i0 : (0 : Int) ≤ (m : Int) := by omega
        have i1 : (m : Int) ≤ (s.size : Int) := by omega
        clear c1
        go_wp2_with fail
        refine (C1.out _).mono ?_
        rintro e w9 ⟨rfl, rfl⟩
        go_wp2_with fail
        go_quiet (fail)
        go_wp2_with fail
        go_ret3
        exact ⟨by rw [HR.out]; rfl, below_drewN HB1.out _⟩
      · rw [hma, e] at hmo
        exact absurd rfl hmo
    · obtain rfl : l = pt' := hend h1
      clear hend hq
      have i0 : (0 : Int) ≤ (l : Int) := by omega
      have i1 : (l : Int) ≤ (s.size : Int) := by omega
      go_wp2_with fail
      go_quiet (fail)
      go_wp2_with fail
      go_ret3
      exact ⟨by rw [HR.out]; rfl, below_drewN HB1.out _⟩

theorem refsplit_q4 (s : ByteArray) (hs : s.size ≤ 140737488351232) (hk : kindI s = 4) (w : World) :
    Calls Try.prog 16 #[.string s] w fun x w' => x = .returned (.tuple #[.string (splitI s).1, .string (splitI s).2.1, .int .i64 (splitI s).2.2]) ∧ Below w.heap.size w w' := by
  obtain ⟨pt, p1, p2, hr, -⟩ := parts s (by omega)
  obtain ⟨pt', e1, -, -, s1, s2, s3⟩ := wholeI_point s (by change kindI s = 3 ∨ kindI s = 4 ∨ kindI s = 7 ∨ kindI s = 8; omega)
  have hpt : pt' = pt := by
    have h9 := congrArg (fun t => t.1.size) hr
    have h8 : splitI s = (s.extract 0 pt', s.extract (pt' + 1) s.size, 0) := by
      unfold splitI
      rw [if_pos (by change kindI s = 3 ∨ kindI s = 4 ∨ kindI s = 7 ∨ kindI s = 8; omega), e1, Int.toNat_natCast]
    rw [h8] at h9
    have z : ∀ m, m < s.size → (s.extract 0 m).size = m := fun m hm => by rw [Lib.size_eq, Lib.extract_data, List.length_take, List.length_drop, ← Lib.size_eq]; omega
    dsimp only at h9
    rw [z pt p2] at h9
    rcases Nat.lt_or_ge pt' s.size with h | h
    · rw [z pt' h] at h9
      exact h9
    · have : (s.extract 0 pt').size = s.size := by rw [Lib.size_eq, Lib.extract_data, List.length_take, List.length_drop, ← Lib.size_eq]; omega
      rw [this] at h9
      omega
  subst hpt
  have hw : (wholeI s).1 = 4 := hk
  rw [hw] at s1
  have hsc : scan (rest s 0) = (4, s.size, pt') := by
    apply Prod.ext
    · exact s1
    · apply Prod.ext
      · exact s2
      · exact s3
  have hpart : (part (rest s 0)).1 = 2 := by
    by_cases h : (part (rest s 0)).1 = 2
    · exact h
    · exfalso
      have h0 : (part (rest s 0)).1 ≠ 0 := by
        intro z
        rw [scan_none _ z] at hsc
        exact absurd (congrArg Prod.fst hsc) (by dsimp only; decide)
      have pk := part_kind (rest s 0)
      have hf := scan_of_lex (Lex.first h0) (.inl (by omega))
      rw [hf] at hsc
      have := congrArg Prod.fst hsc
      dsimp only at this
      omega
  have hc : classI (rn (rest s 0)) = 3 ∧ part (rest s 0) = (2, run nameB (rest s 0)) := by
    rcases part_cases (rest s 0) with ⟨e, _⟩ | ⟨_, c, e⟩ | ⟨_, c, e⟩ | ⟨_, c, e⟩ | ⟨_, c, e⟩
    · rw [e] at hpart
      cases hpart
    · rw [e] at hpart
      dsimp only at hpart
      rcases smallK_cases (bts ((rest s 0).take (run nameB (rest s 0)))) with z | z <;> (rw [z] at hpart; cases hpart)
    · exact ⟨c, e⟩
    · rw [e] at hpart
      dsimp only at hpart
      rcases symK_cases (bts ((rest s 0).take (run symP (rest s 0)))) with z | z | z <;> (rw [z] at hpart; cases hpart)
    · rw [e] at hpart
      cases hpart
  have hstart : grow (rest s 0).length (rest s 0) 2 (run nameB (rest s 0)) 0 = scan (rest s 0) := by
    unfold scan
    rw [hc.2]
  have hl := rest_len s 0
  have hle := run_le nameB _ (rest s 0) (Nat.le_refl _)
  have c0 := fun W => refname_any s 0 (by omega) (Nat.zero_le _) W
  rw [Nat.zero_add] at c0
  have c1 := fun W => refkind_any s (by omega) W
  rw [hk] at c1
  rw [hsc] at hstart
  generalize run nameB (rest s 0) = m0 at *
  have C0 := Lib.hid c0
  have C1 := Lib.hid c1
  have HS := Lib.hid hstart
  have HR := Lib.hid hr
  clear c0 c1 hstart hr hc hpart hsc s1 s2 s3 e1 hw hk
  go_enter Try.func16, Try.ntmps16
  go_wp2_with fail
  refine (C1.out _).mono ?_
  rintro e w1 ⟨rfl, hb1⟩
  have HB1 := Lib.hid hb1
  clear hb1
  go_wp2_with fail
  refine (C0.out _).mono ?_
  rintro e w9 ⟨rfl, rfl⟩
  go_wp2_with fail
  go_loop [5, 6] (fun lv iv => ∃ (l m : Nat), lv = .int .i64 (l : Int) ∧ iv = .int .i64 (m : Int) ∧ m ≤ s.size ∧ ((∃ (kk : Int) (f : Nat), (kk = 2 ∨ kk = 4) ∧ grow f (rest s 0) kk m l = (4, s.size, pt') ∧ s.size ≤ m + f) ∨ (m = s.size ∧ l = pt'))) (fun _ iv => s.size - (intOf iv).toNat)
  case atStart => exact ⟨0, m0, rfl, rfl, by omega, .inl ⟨2, (rest s 0).length, .inl rfl, HS.out, by omega⟩⟩
  case round =>
    obtain ⟨l, m, rfl, rfl, hm, hq⟩ := hrel
    have hend : ¬ m < s.size → l = pt' := by
      intro h
      rcases hq with ⟨kk, f, hkk, hg, hf⟩ | ⟨_, e⟩
      · rw [grow_final f (rest s 0) kk m l (.inr (more_end _ _ (by omega)))] at hg
        exact congrArg (fun t => t.2.2) hg
      · exact e
    by_cases h1 : m < s.size
    · obtain ⟨kk, f, hkk, hg, hf⟩ : ∃ (kk : Int) (f : Nat), (kk = 2 ∨ kk = 4) ∧ grow f (rest s 0) kk m l = (4, s.size, pt') ∧ s.size ≤ m + f := by
        rcases hq with h | ⟨h, _⟩
        · exact h
        · omega
      clear hq hend
      have hd : (rest s 0).drop m = rest s m := by rw [rest_drop, Nat.zero_add]
      have hmo : (more (rest s m)).1 ≠ 0 := by
        intro z
        rw [grow_final f (rest s 0) kk m l (.inr (by rw [hd]; exact z))] at hg
        have := congrArg (fun t => t.2.1) hg
        dsimp only at this
        omega
      have h2 : s[m].toNat = 46 := by
        by_cases h : s[m].toNat = 46
        · exact h
        · exact absurd (more_off s m (.inr ⟨h1, h⟩)) hmo
      have h3 : m + 1 < s.size := by
        by_cases h : m + 1 < s.size
        · exact h
        · exact absurd (more_off s m (.inl h)) hmo
      have hma := more_at s m h3 h2
      have hf1 : f = (f - 1) + 1 := by omega
      have hgn := grow_next (f - 1) (rest s 0) kk m l hkk (by rw [hd]; exact hmo)
      rw [← hf1, hg, hd] at hgn
      have b1 : (((s[m].toNat : Nat) : Int) == 46) = true := by rw [beq_iff_eq]; omega
      have c1 := fun W => refcls_any s ((m + 1 : Nat) : Int) (by omega) W
      rw [clsI_in s (m + 1) h3] at c1
      dsimp only at c1
      have hlr := rest_len s (m + 1)
      clear hf1 hg hd h2
      rcases part_cases (rest s (m + 1)) with ⟨e, _⟩ | ⟨_, c, e⟩ | ⟨_, c, e⟩ | ⟨_, c, e⟩ | ⟨_, c, e⟩
      · rw [hma, e] at hmo
        exact absurd rfl hmo
      · rw [e] at hma
        dsimp only at hma
        have hr := run_le nameB _ (rest s (m + 1)) (Nat.le_refl _)
        have hma' : more (rest s m) = (3, 1 + run nameB (rest s (m + 1))) := by
          rcases smallK_cases (bts ((rest s (m + 1)).take (run nameB (rest s (m + 1))))) with z | z
          · rw [z] at hma
            rw [hma] at hmo
            exact absurd rfl hmo
          · rw [z] at hma
            exact hma
        rw [hma'] at hgn
        dsimp only at hgn
        rw [grow_final (f - 1) (rest s 0) 3 _ m (.inl (by decide))] at hgn
        have g2 := congrArg (fun t => t.2.1) hgn
        have g3 := congrArg (fun t => t.2.2) hgn
        dsimp only at g2 g3
        have c2 := fun W => refname_any s (m + 1) (by omega) (by omega) W
        rw [c] at c1
        clear e c hma hma' hgn hmo
        generalize run nameB (rest s (m + 1)) = r at *
        have C1 := Lib.hid c1
        have C2 := Lib.hid c2
        have G2 := Lib.hid g2
        have G3 := Lib.hid g3
        clear c1 c2 g2 g3
        go_wp2_with fail
        refine (C1.out _).mono ?_
        rintro e w9 ⟨rfl, rfl⟩
        go_wp2_with fail
        refine (C2.out _).mono ?_
        rintro e w9 ⟨rfl, rfl⟩
        go_wp2_with fail
        go_round
        case rel => exact ⟨m, m + 1 + r, rfl, by go_num, by omega, .inr ⟨by have := G2.out; omega, G3.out.symm⟩⟩
        case measure => simp [intOf]; omega
      · rw [e] at hma
        have hma' : more (rest s m) = (4, 1 + run nameB (rest s (m + 1))) := hma
        have hr := run_le nameB _ (rest s (m + 1)) (Nat.le_refl _)
        rw [hma'] at hgn
        dsimp only at hgn
        have c2 := fun W => refname_any s (m + 1) (by omega) (by omega) W
        rw [c] at c1
        clear e c hma hma' hmo
        generalize run nameB (rest s (m + 1)) = r at *
        have C1 := Lib.hid c1
        have C2 := Lib.hid c2
        have HG := Lib.hid hgn
        clear c1 c2 hgn
        go_wp2_with fail
        refine (C1.out _).mono ?_
        rintro e w9 ⟨rfl, rfl⟩
        go_wp2_with fail
        refine (C2.out _).mono ?_
        rintro e w9 ⟨rfl, rfl⟩
        go_wp2_with fail
        go_round
        case rel => exact ⟨m, m + 1 + r, rfl, by go_num, by omega, .inl ⟨4, f - 1, .inr rfl, by rw [HG.out, Nat.add_assoc], by omega⟩⟩
        case measure => simp [intOf]; omega
      · rw [e] at hma
        dsimp only at hma
        have g3 : m = pt' := by
          rcases symK_cases (bts ((rest s (m + 1)).take (run symP (rest s (m + 1))))) with z | z | z
          · rw [z] at hma
            rw [hma] at hmo
            exact absurd rfl hmo
          · rw [z] at hma
            have hma' : more (rest s m) = (8, 1 + run symP (rest s (m + 1))) := hma
            rw [hma'] at hgn
            dsimp only at hgn
            rw [grow_final (f - 1) (rest s 0) 8 _ m (.inl (by decide))] at hgn
            exact (congrArg (fun t => t.2.2) hgn).symm
          · rw [z] at hma
            have hma' : more (rest s m) = (7, 1 + run symP (rest s (m + 1))) := hma
            rw [hma'] at hgn
            dsimp only at hgn
            rw [grow_final (f - 1) (rest s 0) 7 _ m (.inl (by decide))] at hgn
            exact (congrArg (fun t => t.2.2) hgn).symm
        rw [c] at c1
        subst g3
        clear e c hma hmo hgn
        have C1 := Lib.hid c1
        have i0 : (0 : Int) ≤ (m : Int) := by omega
        have i1 : (m : Int) ≤ (s.size : Int) := by omega
        clear c1
        go_wp2_with fail
        refine (C1.out _).mono ?_
        rintro e w9 ⟨rfl, rfl⟩
        go_wp2_with fail
        go_quiet (fail)
        go_wp2_with fail
        go_ret3
        exact ⟨by rw [HR.out]; rfl, below_drewN HB1.out _⟩
      · rw [hma, e] at hmo
        exact absurd rfl hmo
    · obtain rfl : l = pt' := hend h1
      clear hend hq
      have i0 : (0 : Int) ≤ (l : Int) := by omega
      have i1 : (l : Int) ≤ (s.size : Int) := by omega
      go_wp2_with fail
      go_quiet (fail)
      go_wp2_with fail
      go_ret3
      exact ⟨by rw [HR.out]; rfl, below_drewN HB1.out _⟩

theorem refsplit_q7 (s : ByteArray) (hs : s.size ≤ 140737488351232) (hk : kindI s = 7) (w : World) :
    Calls Try.prog 16 #[.string s] w fun x w' => x = .returned (.tuple #[.string (splitI s).1, .string (splitI s).2.1, .int .i64 (splitI s).2.2]) ∧ Below w.heap.size w w' := by
  obtain ⟨pt, p1, p2, hr, -⟩ := parts s (by omega)
  obtain ⟨pt', e1, -, -, s1, s2, s3⟩ := wholeI_point s (by change kindI s = 3 ∨ kindI s = 4 ∨ kindI s = 7 ∨ kindI s = 8; omega)
  have hpt : pt' = pt := by
    have h9 := congrArg (fun t => t.1.size) hr
    have h8 : splitI s = (s.extract 0 pt', s.extract (pt' + 1) s.size, 0) := by
      unfold splitI
      rw [if_pos (by change kindI s = 3 ∨ kindI s = 4 ∨ kindI s = 7 ∨ kindI s = 8; omega), e1, Int.toNat_natCast]
    rw [h8] at h9
    have z : ∀ m, m < s.size → (s.extract 0 m).size = m := fun m hm => by rw [Lib.size_eq, Lib.extract_data, List.length_take, List.length_drop, ← Lib.size_eq]; omega
    dsimp only at h9
    rw [z pt p2] at h9
    rcases Nat.lt_or_ge pt' s.size with h | h
    · rw [z pt' h] at h9
      exact h9
    · have : (s.extract 0 pt').size = s.size := by rw [Lib.size_eq, Lib.extract_data, List.length_take, List.length_drop, ← Lib.size_eq]; omega
      rw [this] at h9
      omega
  subst hpt
  have hw : (wholeI s).1 = 7 := hk
  rw [hw] at s1
  have hsc : scan (rest s 0) = (7, s.size, pt') := by
    apply Prod.ext
    · exact s1
    · apply Prod.ext
      · exact s2
      · exact s3
  have hpart : (part (rest s 0)).1 = 2 := by
    by_cases h : (part (rest s 0)).1 = 2
    · exact h
    · exfalso
      have h0 : (part (rest s 0)).1 ≠ 0 := by
        intro z
        rw [scan_none _ z] at hsc
        exact absurd (congrArg Prod.fst hsc) (by dsimp only; decide)
      have pk := part_kind (rest s 0)
      have hf := scan_of_lex (Lex.first h0) (.inl (by omega))
      rw [hf] at hsc
      have := congrArg Prod.fst hsc
      dsimp only at this
      omega
  have hc : classI (rn (rest s 0)) = 3 ∧ part (rest s 0) = (2, run nameB (rest s 0)) := by
    rcases part_cases (rest s 0) with ⟨e, _⟩ | ⟨_, c, e⟩ | ⟨_, c, e⟩ | ⟨_, c, e⟩ | ⟨_, c, e⟩
    · rw [e] at hpart
      cases hpart
    · rw [e] at hpart
      dsimp only at hpart
      rcases smallK_cases (bts ((rest s 0).take (run nameB (rest s 0)))) with z | z <;> (rw [z] at hpart; cases hpart)
    · exact ⟨c, e⟩
    · rw [e] at hpart
      dsimp only at hpart
      rcases symK_cases (bts ((rest s 0).take (run symP (rest s 0)))) with z | z | z <;> (rw [z] at hpart; cases hpart)
    · rw [e] at hpart
      cases hpart
  have hstart : grow (rest s 0).length (rest s 0) 2 (run nameB (rest s 0)) 0 = scan (rest s 0) := by
    unfold scan
    rw [hc.2]
  have hl := rest_len s 0
  have hle := run_le nameB _ (rest s 0) (Nat.le_refl _)
  have c0 := fun W => refname_any s 0 (by omega) (Nat.zero_le _) W
  rw [Nat.zero_add] at c0
  have c1 := fun W => refkind_any s (by omega) W
  rw [hk] at c1
  rw [hsc] at hstart
  generalize run nameB (rest s 0) = m0 at *
  have C0 := Lib.hid c0
  have C1 := Lib.hid c1
  have HS := Lib.hid hstart
  have HR := Lib.hid hr
  clear c0 c1 hstart hr hc hpart hsc s1 s2 s3 e1 hw hk
  go_enter Try.func16, Try.ntmps16
  go_wp2_with fail
  refine (C1.out _).mono ?_
  rintro e w1 ⟨rfl, hb1⟩
  have HB1 := Lib.hid hb1
  clear hb1
  go_wp2_with fail
  refine (C0.out _).mono ?_
  rintro e w9 ⟨rfl, rfl⟩
  go_wp2_with fail
  go_loop [5, 6] (fun lv iv => ∃ (l m : Nat), lv = .int .i64 (l : Int) ∧ iv = .int .i64 (m : Int) ∧ m ≤ s.size ∧ ((∃ (kk : Int) (f : Nat), (kk = 2 ∨ kk = 4) ∧ grow f (rest s 0) kk m l = (7, s.size, pt') ∧ s.size ≤ m + f) ∨ (m = s.size ∧ l = pt'))) (fun _ iv => s.size - (intOf iv).toNat)
  case atStart => exact ⟨0, m0, rfl, rfl, by omega, .inl ⟨2, (rest s 0).length, .inl rfl, HS.out, by omega⟩⟩
  case round =>
    obtain ⟨l, m, rfl, rfl, hm, hq⟩ := hrel
    have hend : ¬ m < s.size → l = pt' := by
      intro h
      rcases hq with ⟨kk, f, hkk, hg, hf⟩ | ⟨_, e⟩
      · rw [grow_final f (rest s 0) kk m l (.inr (more_end _ _ (by omega)))] at hg
        exact congrArg (fun t => t.2.2) hg
      · exact e
    by_cases h1 : m < s.size
    · obtain ⟨kk, f, hkk, hg, hf⟩ : ∃ (kk : Int) (f : Nat), (kk = 2 ∨ kk = 4) ∧ grow f (rest s 0) kk m l = (7, s.size, pt') ∧ s.size ≤ m + f := by
        rcases hq with h | ⟨h, _⟩
        · exact h
        · omega
      clear hq hend
      have hd : (rest s 0).drop m = rest s m := by rw [rest_drop, Nat.zero_add]
      have hmo : (more (rest s m)).1 ≠ 0 := by
        intro z
        rw [grow_final f (rest s 0) kk m l (.inr (by rw [hd]; exact z))] at hg
        have := congrArg (fun t => t.2.1) hg
        dsimp only at this
        omega
      have h2 : s[m].toNat = 46 := by
        by_cases h : s[m].toNat = 46
        · exact h
        · exact absurd (more_off s m (.inr ⟨h1, h⟩)) hmo
      have h3 : m + 1 < s.size := by
        by_cases h : m + 1 < s.size
        · exact h
        · exact absurd (more_off s m (.inl h)) hmo
      have hma := more_at s m h3 h2
      have hf1 : f = (f - 1) + 1 := by omega
      have hgn := grow_next (f - 1) (rest s 0) kk m l hkk (by rw [hd]; exact hmo)
      rw [← hf1, hg, hd] at hgn
      have b1 : (((s[m].toNat : Nat) : Int) == 46) = true := by rw [beq_iff_eq]; omega
      have c1 := fun W => refcls_any s ((m + 1 : Nat) : Int) (by omega) W
      rw [clsI_in s (m + 1) h3] at c1
      dsimp only at c1
      have hlr := rest_len s (m + 1)
      clear hf1 hg hd h2
      rcases part_cases (rest s (m + 1)) with ⟨e, _⟩ | ⟨_, c, e⟩ | ⟨_, c, e⟩ | ⟨_, c, e⟩ | ⟨_, c, e⟩
      · rw [hma, e] at hmo
        exact absurd rfl hmo
      · rw [e] at hma
        dsimp only at hma
        have hr := run_le nameB _ (rest s (m + 1)) (Nat.le_refl _)
        have hma' : more (rest s m) = (3, 1 + run nameB (rest s (m + 1))) := by
          rcases smallK_cases (bts ((rest s (m + 1)).take (run nameB (rest s (m + 1))))) with z | z
          · rw [z] at hma
            rw [hma] at hmo
            exact absurd rfl hmo
          · rw [z] at hma
            exact hma
        rw [hma'] at hgn
        dsimp only at hgn
        rw [grow_final (f - 1) (rest s 0) 3 _ m (.inl (by decide))] at hgn
        have g2 := congrArg (fun t => t.2.1) hgn
        have g3 := congrArg (fun t => t.2.2) hgn
        dsimp only at g2 g3
        have c2 := fun W => refname_any s (m + 1) (by omega) (by omega) W
        rw [c] at c1
        clear e c hma hma' hgn hmo
        generalize run nameB (rest s (m + 1)) = r at *
        have C1 := Lib.hid c1
        have C2 := Lib.hid c2
        have G2 := Lib.hid g2
        have G3 := Lib.hid g3
        clear c1 c2 g2 g3
        go_wp2_with fail
        refine (C1.out _).mono ?_
        rintro e w9 ⟨rfl, rfl⟩
        go_wp2_with fail
        refine (C2.out _).mono ?_
        rintro e w9 ⟨rfl, rfl⟩
        go_wp2_with fail
        go_round
        case rel => exact ⟨m, m + 1 + r, rfl, by go_num, by omega, .inr ⟨by have := G2.out; omega, G3.out.symm⟩⟩
        case measure => simp [intOf]; omega
      · rw [e] at hma
        have hma' : more (rest s m) = (4, 1 + run nameB (rest s (m + 1))) := hma
        have hr := run_le nameB _ (rest s (m + 1)) (Nat.le_refl _)
        rw [hma'] at hgn
        dsimp only at hgn
        have c2 := fun W => refname_any s (m + 1) (by omega) (by omega) W
        rw [c] at c1
        clear e c hma hma' hmo
        generalize run nameB (rest s (m + 1)) = r at *
        have C1 := Lib.hid c1
        have C2 := Lib.hid c2
        have HG := Lib.hid hgn
        clear c1 c2 hgn
        go_wp2_with fail
        refine (C1.out _).mono ?_
        rintro e w9 ⟨rfl, rfl⟩
        go_wp2_with fail
        refine (C2.out _).mono ?_
        rintro e w9 ⟨rfl, rfl⟩
        go_wp2_with fail
        go_round
        case rel => exact ⟨m, m + 1 + r, rfl, by go_num, by omega, .inl ⟨4, f - 1, .inr rfl, by rw [HG.out, Nat.add_assoc], by omega⟩⟩
        case measure => simp [intOf]; omega
      · rw [e] at hma
        dsimp only at hma
        have g3 : m = pt' := by
          rcases symK_cases (bts ((rest s (m + 1)).take (run symP (rest s (m + 1))))) with z | z | z
          · rw [z] at hma
            rw [hma] at hmo
            exact absurd rfl hmo
          · rw [z] at hma
            have hma' : more (rest s m) = (8, 1 + run symP (rest s (m + 1))) := hma
            rw [hma'] at hgn
            dsimp only at hgn
            rw [grow_final (f - 1) (rest s 0) 8 _ m (.inl (by decide))] at hgn
            exact (congrArg (fun t => t.2.2) hgn).symm
          · rw [z] at hma
            have hma' : more (rest s m) = (7, 1 + run symP (rest s (m + 1))) := hma
            rw [hma'] at hgn
            dsimp only at hgn
            rw [grow_final (f - 1) (rest s 0) 7 _ m (.inl (by decide))] at hgn
            exact (congrArg (fun t => t.2.2) hgn).symm
        rw [c] at c1
        subst g3
        clear e c hma hmo hgn
        have C1 := Lib.hid c1
        have i0 : (0 : Int) ≤ (m : Int) := by omega
        have i1 : (m : Int) ≤ (s.size : Int) := by omega
        clear c1
        go_wp2_with fail
        refine (C1.out _).mono ?_
        rintro e w9 ⟨rfl, rfl⟩
        go_wp2_with fail
        go_quiet (fail)
        go_wp2_with fail
        go_ret3
        exact ⟨by rw [HR.out]; rfl, below_drewN HB1.out _⟩
      · rw [hma, e] at hmo
        exact absurd rfl hmo
    · obtain rfl : l = pt' := hend h1
      clear hend hq
      have i0 : (0 : Int) ≤ (l : Int) := by omega
      have i1 : (l : Int) ≤ (s.size : Int) := by omega
      go_wp2_with fail
      go_quiet (fail)
      go_wp2_with fail
      go_ret3
      exact ⟨by rw [HR.out]; rfl, below_drewN HB1.out _⟩

theorem refsplit_q8 (s : ByteArray) (hs : s.size ≤ 140737488351232) (hk : kindI s = 8) (w : World) :
    Calls Try.prog 16 #[.string s] w fun x w' => x = .returned (.tuple #[.string (splitI s).1, .string (splitI s).2.1, .int .i64 (splitI s).2.2]) ∧ Below w.heap.size w w' := by
  obtain ⟨pt, p1, p2, hr, -⟩ := parts s (by omega)
  obtain ⟨pt', e1, -, -, s1, s2, s3⟩ := wholeI_point s (by change kindI s = 3 ∨ kindI s = 4 ∨ kindI s = 7 ∨ kindI s = 8; omega)
  have hpt : pt' = pt := by
    have h9 := congrArg (fun t => t.1.size) hr
    have h8 : splitI s = (s.extract 0 pt', s.extract (pt' + 1) s.size, 0) := by
      unfold splitI
      rw [if_pos (by change kindI s = 3 ∨ kindI s = 4 ∨ kindI s = 7 ∨ kindI s = 8; omega), e1, Int.toNat_natCast]
    rw [h8] at h9
    have z : ∀ m, m < s.size → (s.extract 0 m).size = m := fun m hm => by rw [Lib.size_eq, Lib.extract_data, List.length_take, List.length_drop, ← Lib.size_eq]; omega
    dsimp only at h9
    rw [z pt p2] at h9
    rcases Nat.lt_or_ge pt' s.size with h | h
    · rw [z pt' h] at h9
      exact h9
    · have : (s.extract 0 pt').size = s.size := by rw [Lib.size_eq, Lib.extract_data, List.length_take, List.length_drop, ← Lib.size_eq]; omega
      rw [this] at h9
      omega
  subst hpt
  have hw : (wholeI s).1 = 8 := hk
  rw [hw] at s1
  have hsc : scan (rest s 0) = (8, s.size, pt') := by
    apply Prod.ext
    · exact s1
    · apply Prod.ext
      · exact s2
      · exact s3
  have hpart : (part (rest s 0)).1 = 2 := by
    by_cases h : (part (rest s 0)).1 = 2
    · exact h
    · exfalso
      have h0 : (part (rest s 0)).1 ≠ 0 := by
        intro z
        rw [scan_none _ z] at hsc
        exact absurd (congrArg Prod.fst hsc) (by dsimp only; decide)
      have pk := part_kind (rest s 0)
      have hf := scan_of_lex (Lex.first h0) (.inl (by omega))
      rw [hf] at hsc
      have := congrArg Prod.fst hsc
      dsimp only at this
      omega
  have hc : classI (rn (rest s 0)) = 3 ∧ part (rest s 0) = (2, run nameB (rest s 0)) := by
    rcases part_cases (rest s 0) with ⟨e, _⟩ | ⟨_, c, e⟩ | ⟨_, c, e⟩ | ⟨_, c, e⟩ | ⟨_, c, e⟩
    · rw [e] at hpart
      cases hpart
    · rw [e] at hpart
      dsimp only at hpart
      rcases smallK_cases (bts ((rest s 0).take (run nameB (rest s 0)))) with z | z <;> (rw [z] at hpart; cases hpart)
    · exact ⟨c, e⟩
    · rw [e] at hpart
      dsimp only at hpart
      rcases symK_cases (bts ((rest s 0).take (run symP (rest s 0)))) with z | z | z <;> (rw [z] at hpart; cases hpart)
    · rw [e] at hpart
      cases hpart
  have hstart : grow (rest s 0).length (rest s 0) 2 (run nameB (rest s 0)) 0 = scan (rest s 0) := by
    unfold scan
    rw [hc.2]
  have hl := rest_len s 0
  have hle := run_le nameB _ (rest s 0) (Nat.le_refl _)
  have c0 := fun W => refname_any s 0 (by omega) (Nat.zero_le _) W
  rw [Nat.zero_add] at c0
  have c1 := fun W => refkind_any s (by omega) W
  rw [hk] at c1
  rw [hsc] at hstart
  generalize run nameB (rest s 0) = m0 at *
  have C0 := Lib.hid c0
  have C1 := Lib.hid c1
  have HS := Lib.hid hstart
  have HR := Lib.hid hr
  clear c0 c1 hstart hr hc hpart hsc s1 s2 s3 e1 hw hk
  go_enter Try.func16, Try.ntmps16
  go_wp2_with fail
  refine (C1.out _).mono ?_
  rintro e w1 ⟨rfl, hb1⟩
  have HB1 := Lib.hid hb1
  clear hb1
  go_wp2_with fail
  refine (C0.out _).mono ?_
  rintro e w9 ⟨rfl, rfl⟩
  go_wp2_with fail
  go_loop [5, 6] (fun lv iv => ∃ (l m : Nat), lv = .int .i64 (l : Int) ∧ iv = .int .i64 (m : Int) ∧ m ≤ s.size ∧ ((∃ (kk : Int) (f : Nat), (kk = 2 ∨ kk = 4) ∧ grow f (rest s 0) kk m l = (8, s.size, pt') ∧ s.size ≤ m + f) ∨ (m = s.size ∧ l = pt'))) (fun _ iv => s.size - (intOf iv).toNat)
  case atStart => exact ⟨0, m0, rfl, rfl, by omega, .inl ⟨2, (rest s 0).length, .inl rfl, HS.out, by omega⟩⟩
  case round =>
    obtain ⟨l, m, rfl, rfl, hm, hq⟩ := hrel
    have hend : ¬ m < s.size → l = pt' := by
      intro h
      rcases hq with ⟨kk, f, hkk, hg, hf⟩ | ⟨_, e⟩
      · rw [grow_final f (rest s 0) kk m l (.inr (more_end _ _ (by omega)))] at hg
        exact congrArg (fun t => t.2.2) hg
      · exact e
    by_cases h1 : m < s.size
    · obtain ⟨kk, f, hkk, hg, hf⟩ : ∃ (kk : Int) (f : Nat), (kk = 2 ∨ kk = 4) ∧ grow f (rest s 0) kk m l = (8, s.size, pt') ∧ s.size ≤ m + f := by
        rcases hq with h | ⟨h, _⟩
        · exact h
        · omega
      clear hq hend
      have hd : (rest s 0).drop m = rest s m := by rw [rest_drop, Nat.zero_add]
      have hmo : (more (rest s m)).1 ≠ 0 := by
        intro z
        rw [grow_final f (rest s 0) kk m l (.inr (by rw [hd]; exact z))] at hg
        have := congrArg (fun t => t.2.1) hg
        dsimp only at this
        omega
      have h2 : s[m].toNat = 46 := by
        by_cases h : s[m].toNat = 46
        · exact h
        · exact absurd (more_off s m (.inr ⟨h1, h⟩)) hmo
      have h3 : m + 1 < s.size := by
        by_cases h : m + 1 < s.size
        · exact h
        · exact absurd (more_off s m (.inl h)) hmo
      have hma := more_at s m h3 h2
      have hf1 : f = (f - 1) + 1 := by omega
      have hgn := grow_next (f - 1) (rest s 0) kk m l hkk (by rw [hd]; exact hmo)
      rw [← hf1, hg, hd] at hgn
      have b1 : (((s[m].toNat : Nat) : Int) == 46) = true := by rw [beq_iff_eq]; omega
      have c1 := fun W => refcls_any s ((m + 1 : Nat) : Int) (by omega) W
      rw [clsI_in s (m + 1) h3] at c1
      dsimp only at c1
      have hlr := rest_len s (m + 1)
      clear hf1 hg hd h2
      rcases part_cases (rest s (m + 1)) with ⟨e, _⟩ | ⟨_, c, e⟩ | ⟨_, c, e⟩ | ⟨_, c, e⟩ | ⟨_, c, e⟩
      · rw [hma, e] at hmo
        exact absurd rfl hmo
      · rw [e] at hma
        dsimp only at hma
        have hr := run_le nameB _ (rest s (m + 1)) (Nat.le_refl _)
        have hma' : more (rest s m) = (3, 1 + run nameB (rest s (m + 1))) := by
          rcases smallK_cases (bts ((rest s (m + 1)).take (run nameB (rest s (m + 1))))) with z | z
          · rw [z] at hma
            rw [hma] at hmo
            exact absurd rfl hmo
          · rw [z] at hma
            exact hma
        rw [hma'] at hgn
        dsimp only at hgn
        rw [grow_final (f - 1) (rest s 0) 3 _ m (.inl (by decide))] at hgn
        have g2 := congrArg (fun t => t.2.1) hgn
        have g3 := congrArg (fun t => t.2.2) hgn
        dsimp only at g2 g3
        have c2 := fun W => refname_any s (m + 1) (by omega) (by omega) W
        rw [c] at c1
        clear e c hma hma' hgn hmo
        generalize run nameB (rest s (m + 1)) = r at *
        have C1 := Lib.hid c1
        have C2 := Lib.hid c2
        have G2 := Lib.hid g2
        have G3 := Lib.hid g3
        clear c1 c2 g2 g3
        go_wp2_with fail
        refine (C1.out _).mono ?_
        rintro e w9 ⟨rfl, rfl⟩
        go_wp2_with fail
        refine (C2.out _).mono ?_
        rintro e w9 ⟨rfl, rfl⟩
        go_wp2_with fail
        go_round
        case rel => exact ⟨m, m + 1 + r, rfl, by go_num, by omega, .inr ⟨by have := G2.out; omega, G3.out.symm⟩⟩
        case measure => simp [intOf]; omega
      · rw [e] at hma
        have hma' : more (rest s m) = (4, 1 + run nameB (rest s (m + 1))) := hma
        have hr := run_le nameB _ (rest s (m + 1)) (Nat.le_refl _)
        rw [hma'] at hgn
        dsimp only at hgn
        have c2 := fun W => refname_any s (m + 1) (by omega) (by omega) W
        rw [c] at c1
        clear e c hma hma' hmo
        generalize run nameB (rest s (m + 1)) = r at *
        have C1 := Lib.hid c1
        have C2 := Lib.hid c2
        have HG := Lib.hid hgn
        clear c1 c2 hgn
        go_wp2_with fail
        refine (C1.out _).mono ?_
        rintro e w9 ⟨rfl, rfl⟩
        go_wp2_with fail
        refine (C2.out _).mono ?_
        rintro e w9 ⟨rfl, rfl⟩
        go_wp2_with fail
        go_round
        case rel => exact ⟨m, m + 1 + r, rfl, by go_num, by omega, .inl ⟨4, f - 1, .inr rfl, by rw [HG.out, Nat.add_assoc], by omega⟩⟩
        case measure => simp [intOf]; omega
      · rw [e] at hma
        dsimp only at hma
        have g3 : m = pt' := by
          rcases symK_cases (bts ((rest s (m + 1)).take (run symP (rest s (m + 1))))) with z | z | z
          · rw [z] at hma
            rw [hma] at hmo
            exact absurd rfl hmo
          · rw [z] at hma
            have hma' : more (rest s m) = (8, 1 + run symP (rest s (m + 1))) := hma
            rw [hma'] at hgn
            dsimp only at hgn
            rw [grow_final (f - 1) (rest s 0) 8 _ m (.inl (by decide))] at hgn
            exact (congrArg (fun t => t.2.2) hgn).symm
          · rw [z] at hma
            have hma' : more (rest s m) = (7, 1 + run symP (rest s (m + 1))) := hma
            rw [hma'] at hgn
            dsimp only at hgn
            rw [grow_final (f - 1) (rest s 0) 7 _ m (.inl (by decide))] at hgn
            exact (congrArg (fun t => t.2.2) hgn).symm
        rw [c] at c1
        subst g3
        clear e c hma hmo hgn
        have C1 := Lib.hid c1
        have i0 : (0 : Int) ≤ (m : Int) := by omega
        have i1 : (m : Int) ≤ (s.size : Int) := by omega
        clear c1
        go_wp2_with fail
        refine (C1.out _).mono ?_
        rintro e w9 ⟨rfl, rfl⟩
        go_wp2_with fail
        go_quiet (fail)
        go_wp2_with fail
        go_ret3
        exact ⟨by rw [HR.out]; rfl, below_drewN HB1.out _⟩
      · rw [hma, e] at hmo
        exact absurd rfl hmo
    · obtain rfl : l = pt' := hend h1
      clear hend hq
      have i0 : (0 : Int) ≤ (l : Int) := by omega
      have i1 : (l : Int) ≤ (s.size : Int) := by omega
      go_wp2_with fail
      go_quiet (fail)
      go_wp2_with fail
      go_ret3
      exact ⟨by rw [HR.out]; rfl, below_drewN HB1.out _⟩

theorem refsplit_any (s : ByteArray) (hs : s.size ≤ 140737488351232) (w : World) :
    Calls Try.prog 16 #[.string s] w fun x w' => x = .returned (.tuple #[.string (splitI s).1, .string (splitI s).2.1, .int .i64 (splitI s).2.2]) ∧ Below w.heap.size w w' := by
  have hk := kindI_range s
  have c1 := fun W => refkind_any s (by omega) W
  by_cases h3 : kindI s = 3
  · exact refsplit_q3 s hs h3 w
  by_cases h4 : kindI s = 4
  · exact refsplit_q4 s hs h4 w
  by_cases h7 : kindI s = 7
  · exact refsplit_q7 s hs h7 w
  by_cases h8 : kindI s = 8
  · exact refsplit_q8 s hs h8 w
  have hr : splitI s = if kindI s = 1 ∨ kindI s = 2 ∨ kindI s = 5 ∨ kindI s = 6 then (⟨#[]⟩, s, 0) else (⟨#[]⟩, ⟨#[]⟩, 30) := by
    unfold splitI
    unfold kindI at h3 h4 h7 h8
    rw [if_neg (by omega)]
    rfl
  generalize kindI s = k at *
  have C1 := Lib.hid c1
  clear c1
  by_cases h1 : k = 1 ∨ k = 2 ∨ k = 5 ∨ k = 6
  · rw [if_pos h1] at hr
    have HR := Lib.hid hr
    clear hr hk h3 h4 h7 h8
    rcases h1 with rfl | rfl | rfl | rfl
    · go_enter Try.func16, Try.ntmps16
      go_wp2_with fail
      refine (C1.out _).mono ?_
      rintro e w1 ⟨rfl, hb1⟩
      have HB1 := Lib.hid hb1
      clear hb1
      go_wp2_with fail
      go_ret3
      exact ⟨by rw [HR.out]; rfl, HB1.out⟩
    · go_enter Try.func16, Try.ntmps16
      go_wp2_with fail
      refine (C1.out _).mono ?_
      rintro e w1 ⟨rfl, hb1⟩
      have HB1 := Lib.hid hb1
      clear hb1
      go_wp2_with fail
      go_ret3
      exact ⟨by rw [HR.out]; rfl, HB1.out⟩
    · go_enter Try.func16, Try.ntmps16
      go_wp2_with fail
      refine (C1.out _).mono ?_
      rintro e w1 ⟨rfl, hb1⟩
      have HB1 := Lib.hid hb1
      clear hb1
      go_wp2_with fail
      go_ret3
      exact ⟨by rw [HR.out]; rfl, HB1.out⟩
    · go_enter Try.func16, Try.ntmps16
      go_wp2_with fail
      refine (C1.out _).mono ?_
      rintro e w1 ⟨rfl, hb1⟩
      have HB1 := Lib.hid hb1
      clear hb1
      go_wp2_with fail
      go_ret3
      exact ⟨by rw [HR.out]; rfl, HB1.out⟩
  · rw [if_neg h1] at hr
    have HR := Lib.hid hr
    have h0 : k = 0 ∨ k = 9 ∨ k = 10 ∨ k = 15 := by omega
    clear hr hk h3 h4 h7 h8 h1
    rcases h0 with rfl | rfl | rfl | rfl
    · go_enter Try.func16, Try.ntmps16
      go_wp2_with fail
      refine (C1.out _).mono ?_
      rintro e w1 ⟨rfl, hb1⟩
      have HB1 := Lib.hid hb1
      clear hb1
      go_wp2_with fail
      go_ret3
      exact ⟨by rw [HR.out]; rfl, HB1.out⟩
    · go_enter Try.func16, Try.ntmps16
      go_wp2_with fail
      refine (C1.out _).mono ?_
      rintro e w1 ⟨rfl, hb1⟩
      have HB1 := Lib.hid hb1
      clear hb1
      go_wp2_with fail
      go_ret3
      exact ⟨by rw [HR.out]; rfl, HB1.out⟩
    · go_enter Try.func16, Try.ntmps16
      go_wp2_with fail
      refine (C1.out _).mono ?_
      rintro e w1 ⟨rfl, hb1⟩
      have HB1 := Lib.hid hb1
      clear hb1
      go_wp2_with fail
      go_ret3
      exact ⟨by rw [HR.out]; rfl, HB1.out⟩
    · go_enter Try.func16, Try.ntmps16
      go_wp2_with fail
      refine (C1.out _).mono ?_
      rintro e w1 ⟨rfl, hb1⟩
      have HB1 := Lib.hid hb1
      clear hb1
      go_wp2_with fail
      go_ret3
      exact ⟨by rw [HR.out]; rfl, HB1.out⟩

theorem splits_walk (a0 : ByteArray) (w0 : a0.size ≤ 140737488351232) (w : World) :
    Calls Try.prog 5 #[.string a0] w fun e w' => e = .returned (.bool true) ∧ Below w.heap.size w w' := by
  have c1 := fun W => Split_any a0 (by omega) W
  have c2 := fun W => refsplit_any a0 w0 W
  generalize splitI a0 = r at c1 c2
  obtain ⟨x, y, z⟩ := r
  dsimp only at c1 c2
  have C1 := Lib.hid c1
  have C2 := Lib.hid c2
  clear c1 c2
  go_enter Try.func5, Try.ntmps5
  go_wp2_with fail
  refine (C1.out _).mono ?_
  rintro e w1 ⟨rfl, hb1⟩
  have HB1 := Lib.hid hb1
  clear hb1
  go_wp2_with fail
  refine (C2.out _).mono ?_
  rintro e w2 ⟨rfl, hb2⟩
  have HB2 := Lib.hid (HB1.out.trans (hb2.mono HB1.out.size))
  clear hb2
  go_wp2_with fail
  refine (awake_any _).mono ?_
  rintro e w3 ⟨rfl, hb3⟩
  have HB3 := Lib.hid (HB2.out.trans (hb3.mono HB2.out.size))
  clear hb3
  go_wp2_with fail
  go_ret
  exact ⟨by simp, HB3.out⟩
end Go.Proofs.Ytkabgeimcpkpgaa.Wrd
