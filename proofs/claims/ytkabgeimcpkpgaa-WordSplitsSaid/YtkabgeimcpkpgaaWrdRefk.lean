/-
  The contracts of the document's own Kind, Apart and Split, and the walks of WordScans, WordKinds, WordAparts, WordSplits. Condition: a string has at most 2^47 bytes, as every row's input has.
-/
import Derived.Test.YtkabgeimcpkpgaaWrdGreat
import Derived.Test.YtkabgeimcpkpgaaWrdLaw
namespace Go.Proofs.Ytkabgeimcpkpgaa.Wrd
open Go.RowKit Gly
set_option linter.unusedSimpArgs false

theorem refkind_any (s : ByteArray) (hs : s.size ≤ 1125899906842624) (w : World) :
    Calls Try.prog 14 #[.string s] w fun e w' => e = .returned (.int .i64 (kindI s)) ∧ Below w.heap.size w w' := by
  have c1 := fun W => refscan_any s 0 hs W
  have hk : kindI s = (if (scanI s 0).2.1 = s.size then scanI s 0 else (0, 0, 0)).1 := rfl
  by_cases hz : s.size = 0
  · have h0 : scanI s 0 = (0, 0, 0) := scanI_out s 0 (by omega)
    rw [h0] at c1 hk
    have HK : Hid (kindI s = 0) := by unfold Hid; rw [hk]; split <;> rfl
    have C1 := Lib.hid c1
    have b1 : ((s.size : Int) == 0) = true := by rw [hz]; rfl
    clear c1 h0 hk
    go_enter Try.func14, Try.ntmps14
    go_wp2_with fail
    refine (C1.out _).mono ?_
    rintro e w1 ⟨rfl, hb1⟩
    have HB1 := Lib.hid (hb1)
    clear hb1
    go_wp2_with fail
    go_ret
    exact ⟨by rw [HK.out]; rfl, HB1.out⟩
  · generalize scanI s 0 = r at c1 hk
    obtain ⟨k, m, q⟩ := r
    dsimp only at c1 hk
    have C1 := Lib.hid c1
    have b1 : ((s.size : Int) == 0) = false := by rw [beq_eq_false_iff_ne]; omega
    by_cases hm : m = s.size
    · rw [if_pos hm] at hk
      have HK := Lib.hid hk
      have b2 : (m != (s.size : Int)) = false := by rw [hm]; simp
      clear c1 hk hm hz
      go_enter Try.func14, Try.ntmps14
      go_wp2_with fail
      refine (C1.out _).mono ?_
      rintro e w1 ⟨rfl, hb1⟩
      have HB1 := Lib.hid (hb1)
      clear hb1
      go_wp2_with fail
      go_ret
      exact ⟨by rw [HK.out]; rfl, HB1.out⟩
    · rw [if_neg hm] at hk
      have HK := Lib.hid hk
      have b2 : (m != (s.size : Int)) = true := by rw [bne_iff_ne]; exact hm
      clear c1 hk hm hz
      go_enter Try.func14, Try.ntmps14
      go_wp2_with fail
      refine (C1.out _).mono ?_
      rintro e w1 ⟨rfl, hb1⟩
      have HB1 := Lib.hid (hb1)
      clear hb1
      go_wp2_with fail
      go_ret
      exact ⟨by rw [HK.out]; rfl, HB1.out⟩

theorem refapart_any (a b : ByteArray) (ha : a.size ≤ 281474976710656) (hb : b.size ≤ 281474976710656) (w : World) :
    Calls Try.prog 18 #[.string a, .string b] w fun x w' => x = .returned (.bool (apartB a b)) ∧ Below w.heap.size w w' := by
  have hz := cat_size a b
  have HZ : Hid ((a ++ b).size ≤ 1125899906842624) := by unfold Hid; omega
  have hz' : (((a ++ b).size : Nat) : Int) = (a.size : Int) + (b.size : Int) := by rw [cat_size]; rfl
  have hr : apartB a b = if kindI a = 0 ∨ kindI b = 0 then false else ((scanI (a ++ b) 0).1 == kindI a && (scanI (a ++ b) 0).2.1 == (a.size : Int)) && ((scanI (a ++ b) a.size).1 == kindI b && (scanI (a ++ b) a.size).2.1 == (((a ++ b).size : Nat) : Int)) := rfl
  rw [hz'] at hr
  have c1 := fun W => refkind_any a (by omega) W
  have c2 := fun W => refkind_any b (by omega) W
  have c3 := fun W => refscan_any (a ++ b) 0 HZ.out W
  have c4 := fun W => refscan_any (a ++ b) a.size HZ.out W
  generalize kindI a = k at c1 hr
  generalize kindI b = l at c2 hr
  generalize scanI (a ++ b) 0 = r1 at c3 hr
  generalize scanI (a ++ b) a.size = r2 at c4 hr
  obtain ⟨k1, m1, q1⟩ := r1
  obtain ⟨k2, m2, q2⟩ := r2
  dsimp only at c3 c4 hr
  have C1 := Lib.hid c1
  have C2 := Lib.hid c2
  have C3 := Lib.hid c3
  have C4 := Lib.hid c4
  clear c1 c2 c3 c4 hz hz'
  by_cases h1 : k = 0
  · rw [if_pos (.inl h1)] at hr
    have HR := Lib.hid hr
    subst h1
    clear hr
    go_enter Try.func18, Try.ntmps18
    go_wp2_with fail
    refine (C1.out _).mono ?_
    rintro e w1 ⟨rfl, hb1⟩
    have HB1 := Lib.hid (hb1)
    clear hb1
    go_wp2_with fail
    refine (C2.out _).mono ?_
    rintro e w2 ⟨rfl, hb2⟩
    have HB2 := Lib.hid (HB1.out.trans (hb2.mono HB1.out.size))
    clear hb2
    go_wp2_with fail
    go_ret
    exact ⟨by rw [HR.out]; rfl, HB2.out⟩
  by_cases h2 : l = 0
  · rw [if_pos (.inr h2)] at hr
    have HR := Lib.hid hr
    have b1 : (k == 0) = false := by rw [beq_eq_false_iff_ne]; exact h1
    subst h2
    clear hr h1
    go_enter Try.func18, Try.ntmps18
    go_wp2_with fail
    refine (C1.out _).mono ?_
    rintro e w1 ⟨rfl, hb1⟩
    have HB1 := Lib.hid (hb1)
    clear hb1
    go_wp2_with fail
    refine (C2.out _).mono ?_
    rintro e w2 ⟨rfl, hb2⟩
    have HB2 := Lib.hid (HB1.out.trans (hb2.mono HB1.out.size))
    clear hb2
    go_wp2_with fail
    go_ret
    exact ⟨by rw [HR.out]; rfl, HB2.out⟩
  rw [if_neg (by omega)] at hr
  have b1 : (k == 0) = false := by rw [beq_eq_false_iff_ne]; exact h1
  have b2 : (l == 0) = false := by rw [beq_eq_false_iff_ne]; exact h2
  clear h1 h2
  by_cases h3 : k1 = k
  · by_cases h4 : m1 = (a.size : Int)
    · have hr' : apartB a b = (k2 == l && m2 == (a.size : Int) + (b.size : Int)) := by
        rw [hr, h3, h4]
        simp
      have HR := Lib.hid hr'
      have b3 : (k1 != k) = false := by rw [h3]; simp
      have b4 : (m1 != (a.size : Int)) = false := by rw [h4]; simp
      clear hr hr' h3 h4
      by_cases h5 : k2 = l
      · have b5 : (k2 == l) = true := by rw [beq_iff_eq]; exact h5
        clear h5
        go_enter Try.func18, Try.ntmps18
        go_wp2_with fail
        refine (C1.out _).mono ?_
        rintro e w1 ⟨rfl, hb1⟩
        have HB1 := Lib.hid (hb1)
        clear hb1
        go_wp2_with fail
        refine (C2.out _).mono ?_
        rintro e w2 ⟨rfl, hb2⟩
        have HB2 := Lib.hid (HB1.out.trans (hb2.mono HB1.out.size))
        clear hb2
        go_wp2_with fail
        refine (C3.out _).mono ?_
        rintro e w3 ⟨rfl, hb3⟩
        have HB3 := Lib.hid (HB2.out.trans (hb3.mono HB2.out.size))
        clear hb3
        go_wp2_with fail
        refine (C4.out _).mono ?_
        rintro e w4 ⟨rfl, hb4⟩
        have HB4 := Lib.hid (HB3.out.trans (hb4.mono HB3.out.size))
        clear hb4
        go_wp2_with fail
        go_ret
        exact ⟨by rw [HR.out, b5]; simp, HB4.out⟩
      · have b5 : (k2 == l) = false := by rw [beq_eq_false_iff_ne]; exact h5
        clear h5
        go_enter Try.func18, Try.ntmps18
        go_wp2_with fail
        refine (C1.out _).mono ?_
        rintro e w1 ⟨rfl, hb1⟩
        have HB1 := Lib.hid (hb1)
        clear hb1
        go_wp2_with fail
        refine (C2.out _).mono ?_
        rintro e w2 ⟨rfl, hb2⟩
        have HB2 := Lib.hid (HB1.out.trans (hb2.mono HB1.out.size))
        clear hb2
        go_wp2_with fail
        refine (C3.out _).mono ?_
        rintro e w3 ⟨rfl, hb3⟩
        have HB3 := Lib.hid (HB2.out.trans (hb3.mono HB2.out.size))
        clear hb3
        go_wp2_with fail
        refine (C4.out _).mono ?_
        rintro e w4 ⟨rfl, hb4⟩
        have HB4 := Lib.hid (HB3.out.trans (hb4.mono HB3.out.size))
        clear hb4
        go_wp2_with fail
        go_ret
        exact ⟨by rw [HR.out, b5]; simp, HB4.out⟩
    · have hr' : apartB a b = false := by
        rw [hr, show (m1 == (a.size : Int)) = false from by rw [beq_eq_false_iff_ne]; exact h4]
        simp
      have HR := Lib.hid hr'
      have b3 : (k1 != k) = false := by rw [h3]; simp
      have b4 : (m1 != (a.size : Int)) = true := by rw [bne_iff_ne]; exact h4
      clear hr hr' h3 h4
      go_enter Try.func18, Try.ntmps18
      go_wp2_with fail
      refine (C1.out _).mono ?_
      rintro e w1 ⟨rfl, hb1⟩
      have HB1 := Lib.hid (hb1)
      clear hb1
      go_wp2_with fail
      refine (C2.out _).mono ?_
      rintro e w2 ⟨rfl, hb2⟩
      have HB2 := Lib.hid (HB1.out.trans (hb2.mono HB1.out.size))
      clear hb2
      go_wp2_with fail
      refine (C3.out _).mono ?_
      rintro e w3 ⟨rfl, hb3⟩
      have HB3 := Lib.hid (HB2.out.trans (hb3.mono HB2.out.size))
      clear hb3
      go_wp2_with fail
      go_ret
      exact ⟨by rw [HR.out]; rfl, HB3.out⟩
  · have hr' : apartB a b = false := by
      rw [hr, show (k1 == k) = false from by rw [beq_eq_false_iff_ne]; exact h3]
      simp
    have HR := Lib.hid hr'
    have b3 : (k1 != k) = true := by rw [bne_iff_ne]; exact h3
    clear hr hr' h3
    go_enter Try.func18, Try.ntmps18
    go_wp2_with fail
    refine (C1.out _).mono ?_
    rintro e w1 ⟨rfl, hb1⟩
    have HB1 := Lib.hid (hb1)
    clear hb1
    go_wp2_with fail
    refine (C2.out _).mono ?_
    rintro e w2 ⟨rfl, hb2⟩
    have HB2 := Lib.hid (HB1.out.trans (hb2.mono HB1.out.size))
    clear hb2
    go_wp2_with fail
    refine (C3.out _).mono ?_
    rintro e w3 ⟨rfl, hb3⟩
    have HB3 := Lib.hid (HB2.out.trans (hb3.mono HB2.out.size))
    clear hb3
    go_wp2_with fail
    go_ret
    exact ⟨by rw [HR.out]; rfl, HB3.out⟩

theorem Lex.kind {L : List UInt8} {k : Int} {n p : Nat} (h : Lex L k n p) : k = 0 ∨ k = 1 ∨ k = 2 ∨ k = 3 ∨ k = 4 ∨ k = 5 ∨ k = 6 ∨ k = 7 ∨ k = 8 ∨ k = 9 ∨ k = 10 ∨ k = 15 := by
  cases h with
  | first _ => have := part_kind L; omega
  | more _ _ _ => have := more_kind (L.drop p); omega
theorem kindI_range (s : ByteArray) : kindI s = 0 ∨ kindI s = 1 ∨ kindI s = 2 ∨ kindI s = 3 ∨ kindI s = 4 ∨ kindI s = 5 ∨ kindI s = 6 ∨ kindI s = 7 ∨ kindI s = 8 ∨ kindI s = 9 ∨ kindI s = 10 ∨ kindI s = 15 := by
  by_cases h : kindI s = 0
  · exact .inl h
  · obtain ⟨p, e⟩ := kindI_scan s _ rfl h
    rcases scan_cases s.data.toList with ⟨e0, _⟩ | ⟨hx, _⟩
    · rw [e0] at e
      exact absurd (congrArg Prod.fst e).symm h
    · rw [e] at hx
      dsimp only at hx
      have := hx.kind
      omega

theorem scans_walk (a0 : ByteArray) (a1 : Int) (w0 : a0.size ≤ 140737488351232) (_w1 : (Lit.int .i64 a1).wf = true) (w : World) :
    Calls Try.prog 3 #[.string a0, .int .i64 a1] w fun e w' => e = .returned (.bool true) ∧ Below w.heap.size w w' := by
  clear _w1
  have c1 := fun W => Scan_any a0 a1 (by omega) W
  have c2 := fun W => refscan_any a0 a1 (by omega) W
  generalize scanI a0 a1 = r at c1 c2
  obtain ⟨x, y, z⟩ := r
  dsimp only at c1 c2
  have C1 := Lib.hid c1
  have C2 := Lib.hid c2
  clear c1 c2
  go_enter Try.func3, Try.ntmps3
  go_wp2_with fail
  refine (C1.out _).mono ?_
  rintro e w1 ⟨rfl, hb1⟩
  have HB1 := Lib.hid (hb1)
  clear hb1
  go_wp2_with fail
  refine (C2.out _).mono ?_
  rintro e w2 ⟨rfl, hb2⟩
  have HB2 := Lib.hid (HB1.out.trans (hb2.mono HB1.out.size))
  clear hb2
  go_wp2_with fail
  refine (awake_any _).mono ?_
  rintro e w3 ⟨rfl, hb3⟩
  have HB3 := Lib.hid (HB2.out.trans (hb3.mono HB2.out.size))
  clear hb3
  go_wp2_with fail
  go_ret
  exact ⟨by simp, HB3.out⟩

theorem kinds_walk (a0 : ByteArray) (w0 : a0.size ≤ 140737488351232) (w : World) :
    Calls Try.prog 4 #[.string a0] w fun e w' => e = .returned (.bool true) ∧ Below w.heap.size w w' := by
  have c1 := fun W => Kind_any a0 (by omega) W
  have c2 := fun W => refkind_any a0 (by omega) W
  generalize kindI a0 = k at c1 c2
  have C1 := Lib.hid c1
  have C2 := Lib.hid c2
  clear c1 c2
  go_enter Try.func4, Try.ntmps4
  go_wp2_with fail
  refine (awake_any _).mono ?_
  rintro e w3 ⟨rfl, hb3⟩
  have HB3 := Lib.hid (hb3)
  clear hb3
  go_wp2_with fail
  refine (C1.out _).mono ?_
  rintro e w1 ⟨rfl, hb1⟩
  have HB1 := Lib.hid (HB3.out.trans (hb1.mono HB3.out.size))
  clear hb1
  go_wp2_with fail
  refine (C2.out _).mono ?_
  rintro e w2 ⟨rfl, hb2⟩
  have HB2 := Lib.hid (HB1.out.trans (hb2.mono HB1.out.size))
  clear hb2
  go_wp2_with fail
  go_ret
  exact ⟨by simp, HB2.out⟩

theorem aparts_walk (a0 a1 : ByteArray) (w0 : a0.size ≤ 140737488351232) (w1 : a1.size ≤ 140737488351232) (w : World) :
    Calls Try.prog 6 #[.string a0, .string a1] w fun e w' => e = .returned (.bool true) ∧ Below w.heap.size w w' := by
  have c1 := fun W => Apart_any a0 a1 (by omega) (by omega) W
  have c2 := fun W => refapart_any a0 a1 (by omega) (by omega) W
  generalize apartB a0 a1 = k at c1 c2
  have C1 := Lib.hid c1
  have C2 := Lib.hid c2
  clear c1 c2
  go_enter Try.func6, Try.ntmps6
  go_wp2_with fail
  refine (awake_any _).mono ?_
  rintro e w3 ⟨rfl, hb3⟩
  have HB3 := Lib.hid (hb3)
  clear hb3
  go_wp2_with fail
  refine (C1.out _).mono ?_
  rintro e w1 ⟨rfl, hb1⟩
  have HB1 := Lib.hid (HB3.out.trans (hb1.mono HB3.out.size))
  clear hb1
  go_wp2_with fail
  refine (C2.out _).mono ?_
  rintro e w2 ⟨rfl, hb2⟩
  have HB2 := Lib.hid (HB1.out.trans (hb2.mono HB1.out.size))
  clear hb2
  go_wp2_with fail
  go_ret
  exact ⟨by simp, HB2.out⟩
end Go.Proofs.Ytkabgeimcpkpgaa.Wrd
