/-
  The contracts of the document's own class, name, Words, Marks, Among, operator. Condition: the string has at most 2^50 bytes.
-/
import Derived.Test.YtkabgeimcpkpgaaWrdScan
import Derived.Test.YtkabgeimcpkpgaaGlyRefn
namespace Go.Proofs.Ytkabgeimcpkpgaa.Wrd
open Go.RowKit Gly
set_option linter.unusedSimpArgs false

/-- class's answers. -/
def clsI (s : ByteArray) (i : Int) : Int × Int := if 0 ≤ i ∧ i < s.size then (classI (rn (rest s i.toNat)), ((wd (rest s i.toNat) : Nat) : Int)) else (0, 0)
theorem clsI_in (s : ByteArray) (n : Nat) (h : n < s.size) : clsI s (n : Int) = (classI (rn (rest s n)), ((wd (rest s n) : Nat) : Int)) := by
  unfold clsI
  rw [if_pos (by omega), Int.toNat_natCast]
theorem refcls_any (s : ByteArray) (i : Int) (hs : s.size ≤ 1125899906842624) (w : World) :
    Calls Try.prog 20 #[.string s, .int .i64 i] w fun e w' => e = .returned (.tuple #[.int .i64 (clsI s i).1, .int .i64 (clsI s i).2]) ∧ w = w' := by
  by_cases hin : 0 ≤ i ∧ i < s.size
  · obtain ⟨n, rfl⟩ := Int.eq_ofNat_of_zero_le (a := i) hin.1
    have hn : n < s.size := by omega
    have HR : Hid (runeAt s (n : Int) = (rn (rest s n), ((wd (rest s n) : Nat) : Int))) := runeAt_rest s n hn
    have HP := Lib.hid (clsI_in s n hn)
    have hw1 := wd_pos (rest s n)
    clear hin
    go_enter Try.func20, Try.ntmps20
    go_wp2_with fail
    refine (refnext_any s n hs _).mono ?_
    rintro e w1 ⟨rfl, rfl⟩
    rw [HR.out]
    go_wp2_with fail
    refine (refclass_any _ _).mono ?_
    rintro e w1 ⟨rfl, rfl⟩
    go_wp2_with fail
    go_ret2
    exact ⟨by rw [HP.out]; rfl, rfl⟩
  · have HR := Lib.hid (runeAt_out s i hin)
    have HP : Hid (clsI s i = (0, 0)) := by unfold Hid clsI; rw [if_neg hin]
    clear hin
    go_enter Try.func20, Try.ntmps20
    go_wp2_with fail
    refine (refnext_any s i hs _).mono ?_
    rintro e w1 ⟨rfl, rfl⟩
    rw [HR.out]
    go_wp2_with fail
    go_ret2
    exact ⟨by rw [HP.out]; rfl, rfl⟩

theorem quote_head (s : ByteArray) (n : Nat) (h : n < s.size) : rn (rest s n) = 39 ↔ s[n].toNat = 39 := by
  have hh := rest_head s n h
  constructor
  · intro e
    have := (ascii_rn (rest s n) (by omega)).2
    omega
  · intro e
    obtain ⟨b, t, q⟩ : ∃ b t, rest s n = b :: t := by
      cases hq : rest s n with
      | nil => exact absurd hq (rest_ne s n h)
      | cons b t => exact ⟨b, t, rfl⟩
    rw [q] at hh ⊢
    have hb : b.toNat = 39 := by
      change b.toNat = _ at hh
      omega
    rw [(rn_ascii b t (by omega)).1, hb]
    rfl
theorem refname_any (s : ByteArray) (n : Nat) (hs : s.size ≤ 1125899906842624) (hn : n ≤ s.size) (w : World) :
    Calls Try.prog 23 #[.string s, .int .i64 (n : Int)] w fun e w' => e = .returned (.int .i64 ((n + run nameB (rest s n) : Nat) : Int)) ∧ w = w' := by
  go_enter Try.func23, Try.ntmps23
  go_wp2
  go_loop [1] (fun i => ∃ (p : Nat), i = .int .i64 (p : Int) ∧ p ≤ s.size ∧ p + run nameB (rest s p) = n + run nameB (rest s n)) (fun i => s.size - (intOf i).toNat)
  case atStart => exact ⟨n, rfl, hn, rfl⟩
  case round =>
    obtain ⟨p, rfl, hp0, hq⟩ := hrel
    have HQ := Lib.hid hq
    clear hq
    by_cases hp : p < s.size
    · have c1 := fun W => refcls_any s p hs W
      rw [clsI_in s p hp] at c1
      dsimp only at c1
      have hqh := quote_head s p hp
      have hw := wd_pos (rest s p)
      have hx := wd_le (rest s p) (rest_ne s p hp)
      have hl := rest_len s p
      have hst := run_step nameB (rest s p) (rest_ne s p hp)
      rw [rest_drop] at hst
      have hsp := run_stop nameB (rest s p)
      have hnb : nameB (rn (rest s p)) = (classI (rn (rest s p)) == 2 || classI (rn (rest s p)) == 3 || classI (rn (rest s p)) == 4 || rn (rest s p) == 39) := rfl
      generalize rn (rest s p) = c at *
      generalize wd (rest s p) = d at *
      generalize classI c = k at *
      have C1 := Lib.hid c1
      have HST := Lib.hid hst
      have HSP := Lib.hid hsp
      have x0 : ((s[p].toNat : Nat) : Int) = 39 ↔ c = 39 := by omega
      clear c1 hst hsp hqh
      by_cases h : k = 2
      · have E : Hid (nameB c = true) := by
          unfold Hid
          rw [hnb]
          simp [h]
        have b1 : (k != 2) = false := by rw [bne_eq_false_iff_eq]; omega
        clear hnb h x0
        go_wp2_with fail
        refine (C1.out _).mono ?_
        rintro e w1 ⟨rfl, rfl⟩
        go_wp2_with fail
        go_round
        case rel => exact ⟨p + d, by go_num, by omega, by rw [← HQ.out, HST.out E.out, Nat.add_assoc]⟩
        case measure => simp [intOf]; omega
      have b2 : (k != 2) = true := by rw [bne_iff_ne]; exact h
      clear h
      by_cases h : k = 3
      · have E : Hid (nameB c = true) := by
          unfold Hid
          rw [hnb]
          simp [h]
        have b1 : (k != 3) = false := by rw [bne_eq_false_iff_eq]; omega
        clear hnb h x0
        go_wp2_with fail
        refine (C1.out _).mono ?_
        rintro e w1 ⟨rfl, rfl⟩
        go_wp2_with fail
        go_round
        case rel => exact ⟨p + d, by go_num, by omega, by rw [← HQ.out, HST.out E.out, Nat.add_assoc]⟩
        case measure => simp [intOf]; omega
      have b3 : (k != 3) = true := by rw [bne_iff_ne]; exact h
      clear h
      by_cases h : k = 4
      · have E : Hid (nameB c = true) := by
          unfold Hid
          rw [hnb]
          simp [h]
        have b1 : (k != 4) = false := by rw [bne_eq_false_iff_eq]; omega
        clear hnb h x0
        go_wp2_with fail
        refine (C1.out _).mono ?_
        rintro e w1 ⟨rfl, rfl⟩
        go_wp2_with fail
        go_round
        case rel => exact ⟨p + d, by go_num, by omega, by rw [← HQ.out, HST.out E.out, Nat.add_assoc]⟩
        case measure => simp [intOf]; omega
      have b4 : (k != 4) = true := by rw [bne_iff_ne]; exact h
      clear h
      by_cases h : c = 39
      · have E : Hid (nameB c = true) := by
          unfold Hid
          rw [hnb]
          simp [h]
        have b1 : (((s[p].toNat : Nat) : Int) != 39) = false := by rw [bne_eq_false_iff_eq]; exact x0.2 h
        clear hnb h x0
        go_wp2_with fail
        refine (C1.out _).mono ?_
        rintro e w1 ⟨rfl, rfl⟩
        go_wp2_with fail
        go_round
        case rel => exact ⟨p + d, by go_num, by omega, by rw [← HQ.out, HST.out E.out, Nat.add_assoc]⟩
        case measure => simp [intOf]; omega
      have E : Hid (nameB c = false) := by
        unfold Hid
        rw [hnb]
        rw [bne_iff_ne] at b2 b3 b4
        simp [b2, b3, b4, h]
      have b5 : (((s[p].toNat : Nat) : Int) != 39) = true := by rw [bne_iff_ne]; exact fun q => h (x0.1 q)
      clear hnb h x0
      go_wp2_with fail
      refine (C1.out _).mono ?_
      rintro e w1 ⟨rfl, rfl⟩
      go_wp2_with fail
      go_ret
      refine ⟨?_, rfl⟩
      have := HQ.out
      rw [HSP.out (.inr E.out), Nat.add_zero] at this
      rw [← this]
      rfl
    · go_wp2_with fail
      go_ret
      obtain rfl : p = s.size := by omega
      refine ⟨?_, rfl⟩
      have := HQ.out
      rw [run_stop nameB (rest s s.size) (.inl (rest_nil s _ (Nat.le_refl _))), Nat.add_zero] at this
      rw [← Int.natCast_add, ← this]
      rfl

/-- A block of texts. -/
def Row (w : World) (g : Nat) (L : List (List UInt8)) : Prop := w.heap[g]? = some (.cells (L.map fun x => Value.string (bts x)).toArray 9 (0, 0))
theorem Row.at_ {w : World} {g : Nat} {L : List (List UInt8)} (h : Row w g L) (k : Nat) (hk : k < L.length) : w.cell? ⟨g, k, none⟩ = some (.string (bts L[k])) := by
  rw [cell_of_row w g k _ _ _ h]
  simp [hk]
theorem Row.below {B : Nat} {w w' : World} {g : Nat} {L : List (List UInt8)} (h : Row w g L) (hb : Below B w w') (hg : g < B) : Row w' g L := (hb.block g hg).trans h
theorem words_any (w : World) : Calls Try.prog 25 #[] w fun e w' => e = .returned (.slice (some ⟨w.heap.size, 0, none⟩) 23 23) ∧ Row w' w.heap.size wordsL ∧ Below w.heap.size w w' ∧ w.heap.size < w'.heap.size := by
  go_enter Try.func25, Try.ntmps25
  go_wp2
  go_ret
  exact ⟨rfl, heap_alloc_new w _, (Below.refl _ _).alloc (Nat.le_refl _) _, by rw [World.size_alloc]; omega⟩
theorem marks_any (w : World) : Calls Try.prog 33 #[] w fun e w' => e = .returned (.slice (some ⟨w.heap.size, 0, none⟩) 11 11) ∧ Row w' w.heap.size marksL ∧ Below w.heap.size w w' ∧ w.heap.size < w'.heap.size := by
  go_enter Try.func33, Try.ntmps33
  go_wp2
  go_ret
  exact ⟨rfl, heap_alloc_new w _, (Below.refl _ _).alloc (Nat.le_refl _) _, by rw [World.size_alloc]; omega⟩

theorem among_any (L : List (List UInt8)) (x : ByteArray) (g cap : Nat) (hL : L.length ≤ 1000) (w : World) (hg : Row w g L) :
    Calls Try.prog 24 #[.slice (some ⟨g, 0, none⟩) L.length cap, .string x] w fun e w' => e = .returned (.bool (L.any fun y => x.data.toList == y)) ∧ w = w' := by
  have HG := Lib.hid hg
  clear hg
  go_enter Try.func24, Try.ntmps24
  go_wp2_with fail
  go_loop [5] (fun i => ∃ (k : Nat), i = .int .i64 (k : Int) ∧ k ≤ L.length ∧ ((L.drop k).any fun y => x.data.toList == y) = (L.any fun y => x.data.toList == y)) (fun i => L.length - (intOf i).toNat)
  case atStart => exact ⟨0, rfl, Nat.zero_le _, rfl⟩
  case round =>
    obtain ⟨k, rfl, hk0, hq⟩ := hrel
    have HQ := Lib.hid hq
    clear hq
    by_cases hk : k < L.length
    · have c0 := HG.out.at_ k hk
      have hd : L.drop k = L[k] :: L.drop (k + 1) := List.drop_eq_getElem_cons hk
      have hbt : (bts L[k]).toList = L[k] := by rw [Lib.toList_data]; rfl
      have hxt := Lib.toList_data x
      generalize L[k] = y at *
      have i0 : (0 : Int) ≤ (k : Int) := by omega
      have i1 : (k : Int) < (L.length : Int) := by omega
      cases he : x.data.toList == y with
      | true =>
        have b1 : ((bts y).toList == x.toList) = true := by
          rw [hbt, hxt, beq_iff_eq]
          exact (beq_iff_eq.1 he).symm
        have HE := Lib.hid he
        have HD := Lib.hid hd
        clear he hd hbt hxt
        go_wp2_with fail
        go_ret
        refine ⟨?_, rfl⟩
        rw [← HQ.out, HD.out, List.any_cons, HE.out]
        rfl
      | false =>
        have b1 : ((bts y).toList == x.toList) = false := by
          rw [hbt, hxt, beq_eq_false_iff_ne]
          exact fun q => (beq_eq_false_iff_ne.1 he) q.symm
        have HE := Lib.hid he
        have HD := Lib.hid hd
        clear he hd hbt hxt
        go_wp2_with fail
        go_round
        case rel =>
          refine ⟨k + 1, by go_num, by omega, ?_⟩
          rw [← HQ.out, HD.out, List.any_cons, HE.out]
          rfl
        case measure => simp [intOf]; omega
    · go_wp2_with fail
      go_ret
      refine ⟨?_, rfl⟩
      rw [← HQ.out, List.drop_eq_nil_of_le (by omega)]
      rfl

theorem reskind_any (x : ByteArray) (g : Nat) (w : World) (hg : Row w g wordsL) :
    Calls Try.prog 24 #[.slice (some ⟨g, 0, none⟩) 23 23, .string x] w fun e w' => e = .returned (.bool (resB x)) ∧ w = w' :=
  among_any wordsL x g 23 (by decide) w hg
theorem markkind_any (x : ByteArray) (g : Nat) (w : World) (hg : Row w g marksL) :
    Calls Try.prog 24 #[.slice (some ⟨g, 0, none⟩) 11 11, .string x] w fun e w' => e = .returned (.bool (markB x)) ∧ w = w' :=
  among_any marksL x g 11 (by decide) w hg

theorem operator_any (s : ByteArray) (hz : 0 < s.size) (w : World) :
    Calls Try.prog 22 #[.string s] w fun e w' => e = .returned (.int .i64 (symK s)) ∧ Below w.heap.size w w' := by
  have c0 := fun g W h => markkind_any s g W h
  have hb := byte0_in s hz
  have hk : symK s = if markB s = true then 10 else if byte0 s = 58 then 6 else 5 := rfl
  cases h : markB s with
  | true =>
    rw [h] at c0 hk
    have C0 := Lib.hid c0
    have HK : Hid (symK s = 10) := hk
    clear h c0 hk hb
    go_enter Try.func22, Try.ntmps22
    go_wp2_with fail
    refine (marks_any _).mono ?_
    rintro e w1 ⟨rfl, hr, hb1, -⟩
    have HB1 := Lib.hid hb1
    have R1 := Lib.hid hr
    clear hb1 hr
    go_wp2_with fail
    refine (C0.out _ _ R1.out).mono ?_
    rintro e w2 ⟨rfl, rfl⟩
    go_wp2_with fail
    go_ret
    exact ⟨by rw [HK.out]; rfl, HB1.out⟩
  | false =>
    rw [h, if_neg (by decide)] at hk
    rw [h] at c0
    have C0 := Lib.hid c0
    by_cases h1 : byte0 s = 58
    · rw [if_pos h1] at hk
      have HK : Hid (symK s = 6) := hk
      have x : s[0].toNat = 58 := by omega
      clear h c0 hk hb h1
      go_enter Try.func22, Try.ntmps22
      go_wp2_with fail
      refine (marks_any _).mono ?_
      rintro e w1 ⟨rfl, hr, hb1, -⟩
      have HB1 := Lib.hid hb1
      have R1 := Lib.hid hr
      clear hb1 hr
      go_wp2_with fail
      refine (C0.out _ _ R1.out).mono ?_
      rintro e w2 ⟨rfl, rfl⟩
      go_wp2_with fail
      go_ret
      exact ⟨by rw [HK.out]; rfl, HB1.out⟩
    · rw [if_neg h1] at hk
      have HK : Hid (symK s = 5) := hk
      have x : ¬ s[0].toNat = 58 := by omega
      clear h c0 hk hb h1
      go_enter Try.func22, Try.ntmps22
      go_wp2_with fail
      refine (marks_any _).mono ?_
      rintro e w1 ⟨rfl, hr, hb1, -⟩
      have HB1 := Lib.hid hb1
      have R1 := Lib.hid hr
      clear hb1 hr
      go_wp2_with fail
      refine (C0.out _ _ R1.out).mono ?_
      rintro e w2 ⟨rfl, rfl⟩
      go_wp2_with fail
      go_ret
      exact ⟨by rw [HK.out]; rfl, HB1.out⟩
end Go.Proofs.Ytkabgeimcpkpgaa.Wrd
