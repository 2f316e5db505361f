/-
  The contracts of the document's own class, name, Words, Marks, Among, operator. Condition: the string has at most 2^50 bytes.
-/
import Derived.Test.YtkehchajgdepaaaGreatDoorZWrdA
import Derived.Test.YtkehchajgdepaaaGreatDoorZRefA
import Derived.Deep.RegionWith
import Derived.Deep.QuietTactic
import Derived.BigQuiet
namespace Go.Proofs.YtkehchajgdepaaaGreatDoor.Wrd
open Go.RowKit Gly
set_option linter.unusedSimpArgs false

/-- class's answers. -/
def clsI (s : ByteArray) (i : Int) : Int × Int := if 0 ≤ i ∧ i < s.size then (classI (rn (rest s i.toNat)), ((wd (rest s i.toNat) : Nat) : Int)) else (0, 0)
theorem clsI_in (s : ByteArray) (n : Nat) (h : n < s.size) : clsI s (n : Int) = (classI (rn (rest s n)), ((wd (rest s n) : Nat) : Int)) := by
  unfold clsI
  rw [if_pos (by omega), Int.toNat_natCast]
theorem refcls_any (s : ByteArray) (i : Int) (hs : s.size ≤ 1125899906842624) (w : World) :
    Calls Tryz.prog 69 #[.string s, .int .i64 i] w fun e w' => e = .returned (.tuple #[.int .i64 (clsI s i).1, .int .i64 (clsI s i).2]) ∧ w = w' := by
  by_cases hin : 0 ≤ i ∧ i < s.size
  · obtain ⟨n, rfl⟩ := Int.eq_ofNat_of_zero_le (a := i) hin.1
    have hn : n < s.size := by omega
    have HR : Hid (runeAt s (n : Int) = (rn (rest s n), ((wd (rest s n) : Nat) : Int))) := runeAt_rest s n hn
    have HP := Lib.hid (clsI_in s n hn)
    have hw1 := wd_pos (rest s n)
    clear hin
    go_enter Tryz.func69, Tryz.ntmps69
    go_wp2_with fail
    refine (refnext_any s n hs _).mono ?_
    rintro e w1 ⟨rfl, rfl⟩
    rw [HR.out]
    go_wp2_with fail
    refine (refclass_any _ _).mono ?_
    rintro e w1 ⟨rfl, rfl⟩
    go_wp2_with fail
    go_ret2
    exact ⟨by rw [HP.out]; rfl, rfl⟩
  · have HR := Lib.hid (runeAt_out s i hin)
    have HP : Hid (clsI s i = (0, 0)) := by unfold Hid clsI; rw [if_neg hin]
    clear hin
    go_enter Tryz.func69, Tryz.ntmps69
    go_wp2_with fail
    refine (refnext_any s i hs _).mono ?_
    rintro e w1 ⟨rfl, rfl⟩
    rw [HR.out]
    go_wp2_with fail
    go_ret2
    exact ⟨by rw [HP.out]; rfl, rfl⟩

theorem quote_head (s : ByteArray) (n : Nat) (h : n < s.size) : rn (rest s n) = 39 ↔ s[n].toNat = 39 := by
  have hh := rest_head s n h
  constructor
  · intro e
    have := (ascii_rn (rest s n) (by omega)).2
    omega
  · intro e
    obtain ⟨b, t, q⟩ : ∃ b t, rest s n = b :: t := by
      cases hq : rest s n with
      | nil => exact absurd hq (rest_ne s n h)
      | cons b t => exact ⟨b, t, rfl⟩
    rw [q] at hh ⊢
    have hb : b.toNat = 39 := by
      change b.toNat = _ at hh
      omega
    rw [(rn_ascii b t (by omega)).1, hb]
    rfl
theorem refname_any (s : ByteArray) (n : Nat) (hs : s.size ≤ 1125899906842624) (hn : n ≤ s.size) (w : World) :
    Calls Tryz.prog 71 #[.string s, .int .i64 (n : Int)] w fun e w' => e = .returned (.int .i64 ((n + run nameB (rest s n) : Nat) : Int)) ∧ w = w' := by
  go_enter Tryz.func71, Tryz.ntmps71
  go_wp2
  go_loop [1] (fun i => ∃ (p : Nat), i = .int .i64 (p : Int) ∧ p ≤ s.size ∧ p + run nameB (rest s p) = n + run nameB (rest s n)) (fun i => s.size - (intOf i).toNat)
  case atStart => exact ⟨n, rfl, hn, rfl⟩
  case round =>
    obtain ⟨p, rfl, hp0, hq⟩ := hrel
    have HQ := Lib.hid hq
    clear hq
    by_cases hp : p < s.size
    · have c1 := fun W => refcls_any s p hs W
      rw [clsI_in s p hp] at c1
      dsimp only at c1
      have hqh := quote_head s p hp
      have hw := wd_pos (rest s p)
      have hx := wd_le (rest s p) (rest_ne s p hp)
      have hl := rest_len s p
      have hst := run_step nameB (rest s p) (rest_ne s p hp)
      rw [rest_drop] at hst
      have hsp := run_stop nameB (rest s p)
      have hnb : nameB (rn (rest s p)) = (classI (rn (rest s p)) == 2 || classI (rn (rest s p)) == 3 || classI (rn (rest s p)) == 4 || rn (rest s p) == 39) := rfl
      generalize rn (rest s p) = c at *
      generalize wd (rest s p) = d at *
      generalize classI c = k at *
      have C1 := Lib.hid c1
      have HST := Lib.hid hst
      have HSP := Lib.hid hsp
      have x0 : ((s[p].toNat : Nat) : Int) = 39 ↔ c = 39 := by omega
      clear c1 hst hsp hqh
      by_cases h : k = 2
      · have E : Hid (nameB c = true) := by
          unfold Hid
          rw [hnb]
          simp [h]
        have b1 : (k != 2) = false := by rw [bne_eq_false_iff_eq]; omega
        clear hnb h x0
        go_wp2_with fail
        refine (C1.out _).mono ?_
        rintro e w1 ⟨rfl, rfl⟩
        go_wp2_with fail
        go_round
        case rel => exact ⟨p + d, by go_num, by omega, by rw [← HQ.out, HST.out E.out, Nat.add_assoc]⟩
        case measure => simp [intOf]; omega
      have b2 : (k != 2) = true := by rw [bne_iff_ne]; exact h
      clear h
      by_cases h : k = 3
      · have E : Hid (nameB c = true) := by
          unfold Hid
          rw [hnb]
          simp [h]
        have b1 : (k != 3) = false := by rw [bne_eq_false_iff_eq]; omega
        clear hnb h x0
        go_wp2_with fail
        refine (C1.out _).mono ?_
        rintro e w1 ⟨rfl, rfl⟩
        go_wp2_with fail
        go_round
        case rel => exact ⟨p + d, by go_num, by omega, by rw [← HQ.out, HST.out E.out, Nat.add_assoc]⟩
        case measure => simp [intOf]; omega
      have b3 : (k != 3) = true := by rw [bne_iff_ne]; exact h
      clear h
      by_cases h : k = 4
      · have E : Hid (nameB c = true) := by
          unfold Hid
          rw [hnb]
          simp [h]
        have b1 : (k != 4) = false := by rw [bne_eq_false_iff_eq]; omega
        clear hnb h x0
        go_wp2_with fail
        refine (C1.out _).mono ?_
        rintro e w1 ⟨rfl, rfl⟩
        go_wp2_with fail
        go_round
        case rel => exact ⟨p + d, by go_num, by omega, by rw [← HQ.out, HST.out E.out, Nat.add_assoc]⟩
        case measure => simp [intOf]; omega
      have b4 : (k != 4) = true := by rw [bne_iff_ne]; exact h
      clear h
      by_cases h : c = 39
      · have E : Hid (nameB c = true) := by
          unfold Hid
          rw [hnb]
          simp [h]
        have b1 : (((s[p].toNat : Nat) : Int) != 39) = false := by rw [bne_eq_false_iff_eq]; exact x0.2 h
        clear hnb h x0
        go_wp2_with fail
        refine (C1.out _).mono ?_
        rintro e w1 ⟨rfl, rfl⟩
        go_wp2_with fail
        go_round
        case rel => exact ⟨p + d, by go_num, by omega, by rw [← HQ.out, HST.out E.out, Nat.add_assoc]⟩
        case measure => simp [intOf]; omega
      have E : Hid (nameB c = false) := by
        unfold Hid
        rw [hnb]
        rw [bne_iff_ne] at b2 b3 b4
        simp [b2, b3, b4, h]
      have b5 : (((s[p].toNat : Nat) : Int) != 39) = true := by rw [bne_iff_ne]; exact fun q => h (x0.1 q)
      clear hnb h x0
      go_wp2_with fail
      refine (C1.out _).mono ?_
      rintro e w1 ⟨rfl, rfl⟩
      go_wp2_with fail
      go_ret
      refine ⟨?_, rfl⟩
      have := HQ.out
      rw [HSP.out (.inr E.out), Nat.add_zero] at this
      rw [← this]
      rfl
    · go_wp2_with fail
      go_ret
      obtain rfl : p = s.size := by omega
      refine ⟨?_, rfl⟩
      have := HQ.out
      rw [run_stop nameB (rest s s.size) (.inl (rest_nil s _ (Nat.le_refl _))), Nat.add_zero] at this
      rw [← Int.natCast_add, ← this]
      rfl

/-- A block of texts. -/
def Row (w : World) (g : Nat) (L : List (List UInt8)) : Prop := w.heap[g]? = some (.cells (L.map fun x => Value.string (bts x)).toArray 9 (0, 0))
theorem Row.at_ {w : World} {g : Nat} {L : List (List UInt8)} (h : Row w g L) (k : Nat) (hk : k < L.length) : w.cell? ⟨g, k, none⟩ = some (.string (bts L[k])) := by
  rw [cell_of_row w g k _ _ _ h]
  simp [hk]
theorem Row.below {B : Nat} {w w' : World} {g : Nat} {L : List (List UInt8)} (h : Row w g L) (hb : Below B w w') (hg : g < B) : Row w' g L := (hb.block g hg).trans h
theorem words_any (w : World) : Calls Tryz.prog 73 #[] w fun e w' => e = .returned (.slice (some ⟨w.heap.size, 0, none⟩) 23 23) ∧ Row w' w.heap.size wordsL ∧ Below w.heap.size w w' ∧ w.heap.size < w'.heap.size := by
  go_enter Tryz.func73, Tryz.ntmps73
  go_wp2
  go_ret
  exact ⟨rfl, heap_alloc_new w _, (Below.refl _ _).alloc (Nat.le_refl _) _, by rw [World.size_alloc]; omega⟩
theorem marks_any (w : World) : Calls Tryz.prog 88 #[] w fun e w' => e = .returned (.slice (some ⟨w.heap.size, 0, none⟩) 11 11) ∧ Row w' w.heap.size marksL ∧ Below w.heap.size w w' ∧ w.heap.size < w'.heap.size := by
  go_enter Tryz.func88, Tryz.ntmps88
  go_wp2
  go_ret
  exact ⟨rfl, heap_alloc_new w _, (Below.refl _ _).alloc (Nat.le_refl _) _, by rw [World.size_alloc]; omega⟩

theorem among_any (L : List (List UInt8)) (x : ByteArray) (g cap : Nat) (hL : L.length ≤ 1000) (w : World) (hg : Row w g L) :
    Calls Tryz.prog 72 #[.slice (some ⟨g, 0, none⟩) L.length cap, .string x] w fun e w' => e = .returned (.bool (L.any fun y => x.data.toList == y)) ∧ w = w' := by
  have HG := Lib.hid hg
  clear hg
  go_enter Tryz.func72, Tryz.ntmps72
  go_wp2_with fail
  go_loop [5] (fun i => ∃ (k : Nat), i = .int .i64 (k : Int) ∧ k ≤ L.length ∧ ((L.drop k).any fun y => x.data.toList == y) = (L.any fun y => x.data.toList == y)) (fun i => L.length - (intOf i).toNat)
  case atStart => exact ⟨0, rfl, Nat.zero_le _, rfl⟩
  case round =>
    obtain ⟨k, rfl, hk0, hq⟩ := hrel
    have HQ := Lib.hid hq
    clear hq
    by_cases hk : k < L.length
    · have c0 := HG.out.at_ k hk
      have hd : L.drop k = L[k] :: L.drop (k + 1) := List.drop_eq_getElem_cons hk
      have hbt : (bts L[k]).toList = L[k] := by rw [Lib.toList_data]; rfl
      have hxt := Lib.toList_data x
      generalize L[k] = y at *
      have i0 : (0 : Int) ≤ (k : Int) := by omega
      have i1 : (k : Int) < (L.length : Int) := by omega
      cases he : x.data.toList == y with
      | true =>
        have b1 : ((bts y).toList == x.toList) = true := by
          rw [hbt, hxt, beq_iff_eq]
          exact (beq_iff_eq.1 he).symm
        have HE := Lib.hid he
        have HD := Lib.hid hd
        clear he hd hbt hxt
        go_wp2_with fail
        go_ret
        refine ⟨?_, rfl⟩
        rw [← HQ.out, HD.out, List.any_cons, HE.out]
        rfl
      | false =>
        have b1 : ((bts y).toList == x.toList) = false := by
          rw [hbt, hxt, beq_eq_false_iff_ne]
          exact fun q => (beq_eq_false_iff_ne.1 he) q.symm
        have HE := Lib.hid he
        have HD := Lib.hid hd
        clear he hd hbt hxt
        go_wp2_with fail
        go_round
        case rel =>
          refine ⟨k + 1, by go_num, by omega, ?_⟩
          rw [← HQ.out, HD.out, List.any_cons, HE.out]
          rfl
        case measure => simp [intOf]; omega
    · go_wp2_with fail
      go_ret
      refine ⟨?_, rfl⟩
      rw [← HQ.out, List.drop_eq_nil_of_le (by omega)]
      rfl

theorem reskind_any (x : ByteArray) (g : Nat) (w : World) (hg : Row w g wordsL) :
    Calls Tryz.prog 72 #[.slice (some ⟨g, 0, none⟩) 23 23, .string x] w fun e w' => e = .returned (.bool (resB x)) ∧ w = w' :=
  among_any wordsL x g 23 (by decide) w hg
theorem markkind_any (x : ByteArray) (g : Nat) (w : World) (hg : Row w g marksL) :
    Calls Tryz.prog 72 #[.slice (some ⟨g, 0, none⟩) 11 11, .string x] w fun e w' => e = .returned (.bool (markB x)) ∧ w = w' :=
  among_any marksL x g 11 (by decide) w hg

theorem operator_any (s : ByteArray) (hz : 0 < s.size) (w : World) :
    Calls Tryz.prog 70 #[.string s] w fun e w' => e = .returned (.int .i64 (symK s)) ∧ Below w.heap.size w w' := by
  have c0 := fun g W h => markkind_any s g W h
  have hb := byte0_in s hz
  have hk : symK s = if markB s = true then 10 else if byte0 s = 58 then 6 else 5 := rfl
  cases h : markB s with
  | true =>
    rw [h] at c0 hk
    have C0 := Lib.hid c0
    have HK : Hid (symK s = 10) := hk
    clear h c0 hk hb
    go_enter Tryz.func70, Tryz.ntmps70
    go_wp2_with fail
    refine (marks_any _).mono ?_
    rintro e w1 ⟨rfl, hr, hb1, -⟩
    have HB1 := Lib.hid hb1
    have R1 := Lib.hid hr
    clear hb1 hr
    go_wp2_with fail
    refine (C0.out _ _ R1.out).mono ?_
    rintro e w2 ⟨rfl, rfl⟩
    go_wp2_with fail
    go_ret
    exact ⟨by rw [HK.out]; rfl, HB1.out⟩
  | false =>
    rw [h, if_neg (by decide)] at hk
    rw [h] at c0
    have C0 := Lib.hid c0
    by_cases h1 : byte0 s = 58
    · rw [if_pos h1] at hk
      have HK : Hid (symK s = 6) := hk
      have x : s[0].toNat = 58 := by omega
      clear h c0 hk hb h1
      go_enter Tryz.func70, Tryz.ntmps70
      go_wp2_with fail
      refine (marks_any _).mono ?_
      rintro e w1 ⟨rfl, hr, hb1, -⟩
      have HB1 := Lib.hid hb1
      have R1 := Lib.hid hr
      clear hb1 hr
      go_wp2_with fail
      refine (C0.out _ _ R1.out).mono ?_
      rintro e w2 ⟨rfl, rfl⟩
      go_wp2_with fail
      go_ret
      exact ⟨by rw [HK.out]; rfl, HB1.out⟩
    · rw [if_neg h1] at hk
      have HK : Hid (symK s = 5) := hk
      have x : ¬ s[0].toNat = 58 := by omega
      clear h c0 hk hb h1
      go_enter Tryz.func70, Tryz.ntmps70
      go_wp2_with fail
      refine (marks_any _).mono ?_
      rintro e w1 ⟨rfl, hr, hb1, -⟩
      have HB1 := Lib.hid hb1
      have R1 := Lib.hid hr
      clear hb1 hr
      go_wp2_with fail
      refine (C0.out _ _ R1.out).mono ?_
      rintro e w2 ⟨rfl, rfl⟩
      go_wp2_with fail
      go_ret
      exact ⟨by rw [HK.out]; rfl, HB1.out⟩
end Go.Proofs.YtkehchajgdepaaaGreatDoor.Wrd
/-
  The contracts of the document's own Run over symbols, great, and Scan. Condition: the string has at most 2^50 bytes.
-/
namespace Go.Proofs.YtkehchajgdepaaaGreatDoor.Wrd
open Go.RowKit Gly
set_option linter.unusedSimpArgs false

theorem refrun_any (s : ByteArray) (n : Nat) (hs : s.size ≤ 1125899906842624) (hn : n ≤ s.size) (w : World) :
    Calls Tryz.prog 41 #[.string s, .int .i64 (n : Int), .int .i64 5] w fun e w' => e = .returned (.int .i64 ((n + run symP (rest s n) : Nat) : Int)) ∧ w = w' := by
  have b1 : decide ((n : Int) < 0) = false := decide_eq_false (by omega)
  have b2 : decide (s.size < n) = false := decide_eq_false (by omega)
  go_enter Tryz.func41, Tryz.ntmps41
  go_wp2
  go_loop [1, 6] (fun i _ => ∃ (p : Nat), i = .int .i64 (p : Int) ∧ p ≤ s.size ∧ p + run symP (rest s p) = n + run symP (rest s n)) (fun i _ => s.size - (intOf i).toNat)
  case atStart => exact ⟨n, rfl, hn, rfl⟩
  case round =>
    obtain ⟨p, rfl, hp0, hq⟩ := hrel
    have HQ := Lib.hid hq
    clear hq
    by_cases hp : p < s.size
    · have c1 := fun W => refnext_any s p hs W
      rw [runeAt_rest s p hp] at c1
      dsimp only at c1
      have hw := wd_pos (rest s p)
      have hx := wd_le (rest s p) (rest_ne s p hp)
      have hl := rest_len s p
      have hst := run_step symP (rest s p) (rest_ne s p hp)
      rw [rest_drop] at hst
      have hsp := run_stop symP (rest s p)
      have hsy : symP (rn (rest s p)) = (classI (rn (rest s p)) == 5) := rfl
      generalize rn (rest s p) = c at *
      generalize wd (rest s p) = d at *
      have c2 := fun W => refclass_any c W
      generalize classI c = k at *
      have C1 := Lib.hid c1
      have C2 := Lib.hid c2
      have HST := Lib.hid hst
      have HSP := Lib.hid hsp
      clear c1 c2 hst hsp
      by_cases h : k = 5
      · have E : Hid (symP c = true) := by unfold Hid; rw [hsy, h]; rfl
        have b3 : (k != 5) = false := by rw [bne_eq_false_iff_eq]; exact h
        clear hsy h
        go_wp2_with fail
        refine (C1.out _).mono ?_
        rintro e w1 ⟨rfl, rfl⟩
        go_wp2_with fail
        refine (C2.out _).mono ?_
        rintro e w1 ⟨rfl, rfl⟩
        go_wp2_with fail
        go_round
        case rel => exact ⟨p + d, by go_num, by omega, by rw [← HQ.out, HST.out E.out, Nat.add_assoc]⟩
        case measure => simp [intOf]; omega
      · have E : Hid (symP c = false) := by unfold Hid; rw [hsy, beq_eq_false_iff_ne]; exact h
        have b3 : (k != 5) = true := by rw [bne_iff_ne]; exact h
        clear hsy h
        go_wp2_with fail
        refine (C1.out _).mono ?_
        rintro e w1 ⟨rfl, rfl⟩
        go_wp2_with fail
        refine (C2.out _).mono ?_
        rintro e w1 ⟨rfl, rfl⟩
        go_wp2_with fail
        go_ret
        refine ⟨?_, rfl⟩
        have := HQ.out
        rw [HSP.out (.inr E.out), Nat.add_zero] at this
        rw [← this]
        rfl
    · go_wp2_with fail
      go_ret
      obtain rfl : p = s.size := by omega
      refine ⟨?_, rfl⟩
      have := HQ.out
      rw [run_stop symP (rest s s.size) (.inl (rest_nil s _ (Nat.le_refl _))), Nat.add_zero] at this
      first | (rw [← this]; rfl) | (rw [← Int.natCast_add, ← this]; rfl)

set_option maxHeartbeats 2000000 in
theorem refscan_small (s : ByteArray) (n : Nat) (hs : s.size ≤ 1125899906842624) (hn : n < s.size) (hc : classI (rn (rest s n)) = 2) (w : World) :
    Calls Tryz.prog 44 #[.string s, .int .i64 (n : Int)] w fun e w' => e = .returned (.tuple #[.int .i64 (smallK (bts ((rest s n).take (run nameB (rest s n))))), .int .i64 ((n + run nameB (rest s n) : Nat) : Int)]) ∧ Below w.heap.size w w' := by
  have c1 := fun W => refcls_any s n hs W
  rw [clsI_in s n hn, hc] at c1
  dsimp only at c1
  have hr := run_le nameB _ (rest s n) (Nat.le_refl _)
  have hl := rest_len s n
  have hx := cut_bts s n (run nameB (rest s n))
  have c2 := fun W => refname_any s n hs (by omega) W
  have hk : smallK (bts ((rest s n).take (run nameB (rest s n)))) = if resB (bts ((rest s n).take (run nameB (rest s n)))) = true then 9 else 1 := rfl
  have c3 := fun g W h => reskind_any (bts ((rest s n).take (run nameB (rest s n)))) g W h
  generalize smallK (bts ((rest s n).take (run nameB (rest s n)))) = sk at *
  generalize bts ((rest s n).take (run nameB (rest s n))) = x at *
  generalize run nameB (rest s n) = m at *
  have C1 := Lib.hid c1
  have C2 := Lib.hid c2
  have HX := Lib.hid hx
  have i0 : (0 : Int) ≤ (n : Int) := by omega
  have i1 : (n : Int) ≤ ((n + m : Nat) : Int) := by omega
  have i2 : ((n + m : Nat) : Int) ≤ (s.size : Int) := by omega
  cases h : resB x with
  | true =>
    rw [h] at hk c3
    have C3 := Lib.hid c3
    have HK : Hid (sk = 9) := hk
    clear c1 c2 c3 hx hk h hc
    go_enter Tryz.func44, Tryz.ntmps44
    go_wp2_with fail
    refine (C1.out _).mono ?_
    rintro e w1 ⟨rfl, rfl⟩
    go_wp2_with fail
    refine (C2.out _).mono ?_
    rintro e w1 ⟨rfl, rfl⟩
    go_wp2_with fail
    go_region_with (first | (go_at_call 73; refine (words_any _).mono ?_; rintro e w1 ⟨rfl, hr1, hb1, hl1⟩; have R1 := Lib.hid hr1; have HB1 := Lib.hid hb1; have HL1 := Lib.hid hl1; clear hr1 hb1 hl1) | (go_at_call 72; rw [HX.out]; refine (C3.out _ _ R1.out).mono ?_; rintro e w2 ⟨rfl, rfl⟩))
    all_goals go_wp2_with fail
    all_goals go_ret2
    all_goals exact ⟨by rw [HK.out]; rfl, ⟨HB1.out.os, HB1.out.tape, HB1.out.output, HB1.out.size, HB1.out.block⟩⟩
  | false =>
    rw [h] at hk c3
    have C3 := Lib.hid c3
    have HK : Hid (sk = 1) := hk
    clear c1 c2 c3 hx hk h hc
    go_enter Tryz.func44, Tryz.ntmps44
    go_wp2_with fail
    refine (C1.out _).mono ?_
    rintro e w1 ⟨rfl, rfl⟩
    go_wp2_with fail
    refine (C2.out _).mono ?_
    rintro e w1 ⟨rfl, rfl⟩
    go_wp2_with fail
    go_region_with (first | (go_at_call 73; refine (words_any _).mono ?_; rintro e w1 ⟨rfl, hr1, hb1, hl1⟩; have R1 := Lib.hid hr1; have HB1 := Lib.hid hb1; have HL1 := Lib.hid hl1; clear hr1 hb1 hl1) | (go_at_call 72; rw [HX.out]; refine (C3.out _ _ R1.out).mono ?_; rintro e w2 ⟨rfl, rfl⟩))
    all_goals go_wp2_with fail
    all_goals go_ret2
    all_goals exact ⟨by rw [HK.out]; rfl, ⟨HB1.out.os, HB1.out.tape, HB1.out.output, HB1.out.size, HB1.out.block⟩⟩
end Go.Proofs.YtkehchajgdepaaaGreatDoor.Wrd
/-
  The contracts of package word's whole, Scan, Kind, begins, Split, Apart. Condition: a string has at most 2^49 bytes.
-/
namespace Go.Proofs.YtkehchajgdepaaaGreatDoor.Wrd
open Go.RowKit Gly
set_option linter.unusedSimpArgs false

theorem below_drewN {B : Nat} {a w : World} (h : Below B a w) (n : Nat) : Below B a (w.drewN n) := ⟨h.os, h.tape, h.output, h.size, h.block⟩
theorem lexI_bd (n : Nat) (t : Int × Nat × Nat) : 0 ≤ (lexI n t).2.1 ∧ 0 ≤ (lexI n t).2.2 := by
  unfold lexI
  split
  · exact ⟨Int.le_refl _, Int.le_refl _⟩
  · refine ⟨by dsimp only; omega, ?_⟩
    dsimp only
    split <;> omega

theorem Scan_any (s : ByteArray) (i : Int) (hs : s.size ≤ 1125899906842624) (w : World) :
    Calls Tryz.prog 84 #[.string s, .int .i64 i] w fun e w' => e = .returned (.tuple #[.int .i64 (scanI s i).1, .int .i64 (scanI s i).2.1]) ∧ Below w.heap.size w w' := by
  have c0 := fun W => scan_any s i hs W
  generalize scanI s i = r at c0 ⊢
  obtain ⟨k, e, p⟩ := r
  dsimp only at c0 ⊢
  have C0 := Lib.hid c0
  clear c0
  go_enter Tryz.func84, Tryz.ntmps84
  go_wp2_with fail
  refine (C0.out _).mono ?_
  rintro e w1 ⟨rfl, hb1⟩
  have HB1 := Lib.hid hb1
  clear hb1
  have NW := Trio.new w1 (k, e, p)
  have y0 := NW.c0
  have y1 := NW.c1
  have y2 := NW.c2
  dsimp only at y0 y1 y2
  clear NW
  go_wp2_with fail
  go_quiet (fail)
  go_wp2_with fail
  go_ret2
  exact ⟨rfl, below_drewN (HB1.out.trans (((Below.refl _ _).alloc (Nat.le_refl _) _).mono HB1.out.size)) _⟩

/-- The word that a string is. -/
def wholeI (s : ByteArray) : Int × Int × Int := if (scanI s 0).2.1 = s.size then scanI s 0 else (0, 0, 0)
def kindI (s : ByteArray) : Int := (wholeI s).1
def beginsB (s : ByteArray) (i k e : Int) : Bool := (scanI s i).1 == k && (scanI s i).2.1 == e
theorem cat_size (a b : ByteArray) : (a ++ b).size = a.size + b.size := by simp
def apartB (a b : ByteArray) : Bool := if kindI a = 0 ∨ kindI b = 0 then false else beginsB (a ++ b) 0 (kindI a) a.size && beginsB (a ++ b) a.size (kindI b) (a ++ b).size
/-- Split's answers. -/
def splitI (s : ByteArray) : ByteArray × ByteArray × Int :=
  if (wholeI s).1 = 3 ∨ (wholeI s).1 = 4 ∨ (wholeI s).1 = 7 ∨ (wholeI s).1 = 8 then (s.extract 0 (wholeI s).2.2.toNat, s.extract ((wholeI s).2.2.toNat + 1) s.size, 0)
  else if (wholeI s).1 = 1 ∨ (wholeI s).1 = 2 ∨ (wholeI s).1 = 5 ∨ (wholeI s).1 = 6 then (⟨#[]⟩, s, 0) else (⟨#[]⟩, ⟨#[]⟩, 30)
/-- What wholeI says of the row of bytes. -/
theorem wholeI_at (s : ByteArray) : wholeI s = if (scan (rest s 0)).1 = 0 ∨ (scan (rest s 0)).2.1 ≠ s.size then (0, 0, 0) else ((scan (rest s 0)).1, (s.size : Int), (((scan (rest s 0)).2.2 : Nat) : Int)) := by
  have h0 : scanI s 0 = lexI 0 (scan (rest s 0)) := by
    unfold scanI
    rw [if_pos (by omega)]
    rfl
  unfold wholeI
  rw [h0]
  generalize scan (rest s 0) = t
  obtain ⟨k, n, p⟩ := t
  dsimp only
  by_cases hk : k = 0
  · have e : lexI 0 (k, n, p) = (0, 0, 0) := by unfold lexI; rw [if_pos hk]
    rw [e, if_pos (Or.inl hk : k = 0 ∨ n ≠ s.size)]
    split <;> rfl
  · have e : lexI 0 (k, n, p) = (k, ((n : Nat) : Int), ((p : Nat) : Int)) := by
      unfold lexI
      rw [if_neg hk]
      dsimp only
      rw [Nat.zero_add, Nat.zero_add]
      congr 2
      split
      · rename_i q
        rw [q]
        rfl
      · rfl
    rw [e]
    dsimp only
    by_cases hn : n = s.size
    · rw [if_pos (by omega), if_neg (by omega), hn]
    · rw [if_neg (by omega), if_pos (Or.inr hn : k = 0 ∨ n ≠ s.size)]
theorem wholeI_point (s : ByteArray) (h : (wholeI s).1 = 3 ∨ (wholeI s).1 = 4 ∨ (wholeI s).1 = 7 ∨ (wholeI s).1 = 8) :
    ∃ p : Nat, (wholeI s).2.2 = (p : Int) ∧ 1 ≤ p ∧ p < s.size ∧ (scan (rest s 0)).1 = (wholeI s).1 ∧ (scan (rest s 0)).2.1 = s.size ∧ (scan (rest s 0)).2.2 = p := by
  rw [wholeI_at] at h ⊢
  by_cases q : (scan (rest s 0)).1 = 0 ∨ (scan (rest s 0)).2.1 ≠ s.size
  · rw [if_pos q] at h
    dsimp only at h
    omega
  · rw [if_neg q] at h ⊢
    dsimp only at h ⊢
    have hz := rest_len s 0
    have hn : (scan (rest s 0)).2.1 = (rest s 0).length := by omega
    obtain ⟨_, _, _, p1, p2, _⟩ := scan_parts (rest s 0) hn h
    exact ⟨_, rfl, p1, by omega, rfl, by omega, rfl⟩
end Go.Proofs.YtkehchajgdepaaaGreatDoor.Wrd
/-
  The contract of the document's own great, and of its Scan, Kind, Apart. Condition: the string has at most 2^50 bytes.
-/
namespace Go.Proofs.YtkehchajgdepaaaGreatDoor.Wrd
open Go.RowKit Gly
set_option linter.unusedSimpArgs false

/-- What stands behind an upper-case name that ends at a. -/
theorem more_at (s : ByteArray) (a : Nat) (h1 : a + 1 < s.size) (h2 : s[a].toNat = 46) : more (rest s a) = if qual (part (rest s (a + 1))).1 = 0 then (0, 0) else (qual (part (rest s (a + 1))).1, 1 + (part (rest s (a + 1))).2) := by
  have h46 := (head_46 s a (by omega)).2 h2
  have hd : (rest s a).drop 1 = rest s (a + 1) := rest_drop s a 1
  rcases more_cases (rest s a) with ⟨e, q | q | q⟩ | ⟨_, _, q, e⟩
  · exact absurd q (rest_ne s a (by omega))
  · exact absurd h46 q
  · rw [hd] at q
    rw [e, if_pos q]
  · rw [hd] at q e
    rw [e, if_neg q]
theorem more_off (s : ByteArray) (a : Nat) (h : ¬ (a + 1 < s.size) ∨ ∃ h1 : a < s.size, s[a].toNat ≠ 46) : (more (rest s a)).1 = 0 := by
  rcases more_cases (rest s a) with ⟨e, _⟩ | ⟨n0, h46, q, e⟩
  · rw [e]
  · have hd : (rest s a).drop 1 = rest s (a + 1) := rest_drop s a 1
    have ha : a < s.size := by
      rcases Nat.lt_or_ge a s.size with h | h
      · exact h
      · exact absurd (rest_nil s a h) n0
    rcases h with h | ⟨h1, h⟩
    · rw [hd, rest_nil s (a + 1) (by omega)] at q
      exact absurd rfl q
    · exact absurd ((head_46 s a ha).1 h46) h

set_option maxHeartbeats 4000000 in
theorem refgreat_any (s : ByteArray) (n : Nat) (hs : s.size ≤ 1125899906842624) (hn : n < s.size) (hc : classI (rn (rest s n)) = 3) (w : World) :
    Calls Tryz.prog 74 #[.string s, .int .i64 (n : Int)] w fun e w' => e = .returned (.tuple #[.int .i64 (scan (rest s n)).1, .int .i64 ((n + (scan (rest s n)).2.1 : Nat) : Int)]) ∧ Below w.heap.size w w' := by
  have hl := rest_len s n
  have hpart : part (rest s n) = (2, run nameB (rest s n)) := by
    unfold part
    rw [if_neg (rest_ne s n hn), if_neg (by omega), if_pos hc]
  have hstart : grow (rest s n).length (rest s n) 2 (run nameB (rest s n)) 0 = scan (rest s n) := by
    unfold scan
    rw [hpart]
  have hle := run_le nameB _ (rest s n) (Nat.le_refl _)
  have c0 := fun W => refname_any s n hs (by omega) W
  generalize run nameB (rest s n) = m0 at *
  have C0 := Lib.hid c0
  have HS := Lib.hid hstart
  clear c0 hpart hstart hc
  go_enter Tryz.func74, Tryz.ntmps74
  go_wp2_with fail
  refine (C0.out _).mono ?_
  rintro e w1 ⟨rfl, rfl⟩
  go_wp2_with fail
  go_loop [6, 7] (fun kv ev => ∃ (kk : Int) (a m p f : Nat), kv = .int .i64 kk ∧ (kk = 2 ∨ kk = 4) ∧ ev = .int .i64 (a : Int) ∧ a = n + m ∧ a ≤ s.size ∧ grow f (rest s n) kk m p = scan (rest s n) ∧ s.size ≤ a + f) (fun _ ev => s.size - (intOf ev).toNat)
  case atStart => exact ⟨2, n + m0, m0, 0, (rest s n).length, rfl, .inl rfl, rfl, rfl, by omega, HS.out, by omega⟩
  case round =>
    obtain ⟨kk, a, m, p, f, rfl, hkk, rfl, ham, ha, hq, hf⟩ := hrel
    have HQ := Lib.hid hq
    have HKK := Lib.hid hkk
    have HAM := Lib.hid ham
    have HD : Hid ((rest s n).drop m = rest s a) := by unfold Hid; rw [rest_drop, ham]
    clear hq hkk ham
    by_cases h1 : a + 1 < s.size
    · by_cases h2 : s[a].toNat = 46
      · have hm := more_at s a h1 h2
        have b1 : (((s[a].toNat : Nat) : Int) == 46) = true := by rw [beq_iff_eq]; omega
        have c1 := fun W => refcls_any s ((a + 1 : Nat) : Int) hs W
        rw [clsI_in s (a + 1) h1] at c1
        dsimp only at c1
        have hlr := rest_len s (a + 1)
        clear h2
        rcases part_cases (rest s (a + 1)) with ⟨e, h0 | ⟨k1, k2, k3, k4⟩⟩ | ⟨_, c, e⟩ | ⟨_, c, e⟩ | ⟨_, c, e⟩ | ⟨_, c, e⟩
        · exact absurd h0 (rest_ne s _ h1)
        · rw [e] at hm
          have hm' : more (rest s a) = (0, 0) := hm
          have FIN := Lib.hid (grow_final f (rest s n) kk m p (.inr (by rw [HD.out, hm'])))
          have C1 := Lib.hid c1
          have b2 : (classI (rn (rest s (a + 1))) == 3) = false := by rw [beq_eq_false_iff_ne]; exact k2
          have b3 : (classI (rn (rest s (a + 1))) == 2) = false := by rw [beq_eq_false_iff_ne]; exact k1
          have b4 : (classI (rn (rest s (a + 1))) == 5) = false := by rw [beq_eq_false_iff_ne]; exact k3
          clear e hm hm' c1 k1 k2 k3 k4
          go_wp2_with fail
          refine (C1.out _).mono ?_
          rintro e w1 ⟨rfl, rfl⟩
          go_wp2_with fail
          go_ret2
          exact ⟨by rw [← HQ.out, FIN.out]; dsimp only; (first | rw [← HAM.out] | rw [show (n : Int) + (m : Int) = (a : Int) from by have := HAM.out; omega]); rfl, Below.refl _ _⟩
        · rw [e] at hm
          dsimp only at hm
          have hr := run_le nameB _ (rest s (a + 1)) (Nat.le_refl _)
          have hx := cut_bts s (a + 1) (run nameB (rest s (a + 1)))
          have c2 := fun W => refname_any s (a + 1) hs (by omega) W
          rw [c] at c1
          have c3 := fun g W h => reskind_any (bts ((rest s (a + 1)).take (run nameB (rest s (a + 1))))) g W h
          have hk : smallK (bts ((rest s (a + 1)).take (run nameB (rest s (a + 1))))) = if resB (bts ((rest s (a + 1)).take (run nameB (rest s (a + 1))))) = true then 9 else 1 := rfl
          rw [hk] at hm
          clear e hk c
          generalize bts ((rest s (a + 1)).take (run nameB (rest s (a + 1)))) = x at *
          generalize run nameB (rest s (a + 1)) = r at *
          have C1 := Lib.hid c1
          have C2 := Lib.hid c2
          have HX := Lib.hid hx
          have i0 : (0 : Int) ≤ (a : Int) + 1 := by omega
          have i1 : 0 ≤ (a : Int) + 1 + (r : Int) ∧ (a : Int) + 1 + (r : Int) ≤ (s.size : Int) := by omega
          have i2 : (a : Int) + 1 ≤ (a : Int) + 1 + (r : Int) := by omega
          have i3 : IntKind.i64.wrap ((a : Int) + 1) = (a : Int) + 1 := by rw [IntKind.wrap_i64]; omega
          have i4 : ((a : Int) + 1).toNat = a + 1 := by omega
          have i5 : ((a : Int) + 1 + (r : Int)).toNat = a + 1 + r := by omega
          cases h : resB x with
          | true =>
            rw [h] at hm c3
            have hm' : more (rest s a) = (0, 0) := hm
            have FIN := Lib.hid (grow_final f (rest s n) kk m p (.inr (by rw [HD.out, hm'])))
            have C3 := Lib.hid c3
            clear c1 c2 c3 hx h hm hm'
            go_wp2_with fail
            refine (C1.out _).mono ?_
            rintro e w1 ⟨rfl, rfl⟩
            go_wp2_with fail
            refine (C2.out _).mono ?_
            rintro e w1 ⟨rfl, rfl⟩
            go_wp2_with fail
            go_region_with (first | (go_at_call 73; refine (words_any _).mono ?_; rintro e w1 ⟨rfl, hr1, hb1, hl1⟩; have R1 := Lib.hid hr1; have HB1 := Lib.hid hb1; have HL1 := Lib.hid hl1; clear hr1 hb1 hl1) | (go_at_call 72; rw [HX.out]; refine (C3.out _ _ R1.out).mono ?_; rintro e w2 ⟨rfl, rfl⟩))
            all_goals go_wp2_with fail
            all_goals go_ret2
            all_goals exact ⟨by rw [← HQ.out, FIN.out]; dsimp only; (first | rw [← HAM.out] | rw [show (n : Int) + (m : Int) = (a : Int) from by have := HAM.out; omega]); rfl, ⟨HB1.out.os, HB1.out.tape, HB1.out.output, HB1.out.size, HB1.out.block⟩⟩
          | false =>
            rw [h] at hm c3
            have hm' : more (rest s a) = (3, 1 + r) := hm
            have hfin := grow_final (f - 1) (rest s n) 3 (m + (1 + r)) m (.inl (by decide))
            have hf1 : f = (f - 1) + 1 := by omega
            have hg := grow_next (f - 1) (rest s n) kk m p HKK.out (by rw [HD.out, hm']; dsimp only; decide)
            rw [← hf1, HD.out, hm'] at hg
            dsimp only at hg
            rw [hfin] at hg
            have FIN := Lib.hid hg
            have C3 := Lib.hid c3
            clear c1 c2 c3 hx h hm hm' hg hf1 hfin
            go_wp2_with fail
            refine (C1.out _).mono ?_
            rintro e w1 ⟨rfl, rfl⟩
            go_wp2_with fail
            refine (C2.out _).mono ?_
            rintro e w1 ⟨rfl, rfl⟩
            go_wp2_with fail
            go_region_with (first | (go_at_call 73; refine (words_any _).mono ?_; rintro e w1 ⟨rfl, hr1, hb1, hl1⟩; have R1 := Lib.hid hr1; have HB1 := Lib.hid hb1; have HL1 := Lib.hid hl1; clear hr1 hb1 hl1) | (go_at_call 72; rw [HX.out]; refine (C3.out _ _ R1.out).mono ?_; rintro e w2 ⟨rfl, rfl⟩))
            all_goals go_wp2_with fail
            all_goals go_ret2
            all_goals exact ⟨by rw [← HQ.out, FIN.out]; dsimp only; rw [← Nat.add_assoc, ← Nat.add_assoc, ← HAM.out]; rfl, ⟨HB1.out.os, HB1.out.tape, HB1.out.output, HB1.out.size, HB1.out.block⟩⟩
        · rw [e] at hm
          have hm' : more (rest s a) = (4, 1 + run nameB (rest s (a + 1))) := hm
          have hr := run_le nameB _ (rest s (a + 1)) (Nat.le_refl _)
          have hf1 : f = (f - 1) + 1 := by omega
          have hg := grow_next (f - 1) (rest s n) kk m p HKK.out (by rw [HD.out, hm']; dsimp only; decide)
          rw [← hf1, HD.out, hm'] at hg
          dsimp only at hg
          have c2 := fun W => refname_any s (a + 1) hs (by omega) W
          rw [c] at c1
          clear e c
          generalize run nameB (rest s (a + 1)) = r at *
          have C1 := Lib.hid c1
          have C2 := Lib.hid c2
          have HG := Lib.hid hg
          clear c1 c2 hm hm' hg
          go_wp2_with fail
          refine (C1.out _).mono ?_
          rintro e w1 ⟨rfl, rfl⟩
          go_wp2_with fail
          refine (C2.out _).mono ?_
          rintro e w1 ⟨rfl, rfl⟩
          go_wp2_with fail
          go_round
          case rel => exact ⟨4, a + 1 + r, m + (1 + r), m, f - 1, rfl, .inr rfl, by go_num, by have := HAM.out; omega, by omega, by rw [← HQ.out, HG.out], by omega⟩
          case measure => simp [intOf]; omega
        · rw [e] at hm
          dsimp only at hm
          have hr := run_le symP _ (rest s (a + 1)) (Nat.le_refl _)
          have hr2 := run_pos symP (rest s (a + 1)) (rest_ne s _ h1) (sym_of _ c)
          have hw := wd_pos (rest s (a + 1))
          have hx := cut_bts s (a + 1) (run symP (rest s (a + 1)))
          have c2 := fun W => refrun_any s (a + 1) hs (by omega) W
          rw [c] at c1
          have hz : 0 < (bts ((rest s (a + 1)).take (run symP (rest s (a + 1))))).size := by
            rw [← hx, Lib.size_eq, Lib.extract_data, List.length_take, Nat.add_sub_cancel_left]
            change 0 < min (run symP (rest s (a + 1))) (rest s (a + 1)).length
            omega
          have c3 := fun W => operator_any (bts ((rest s (a + 1)).take (run symP (rest s (a + 1))))) hz W
          have hk := symK_cases (bts ((rest s (a + 1)).take (run symP (rest s (a + 1)))))
          clear e c hz
          generalize symK (bts ((rest s (a + 1)).take (run symP (rest s (a + 1))))) = sk at *
          generalize bts ((rest s (a + 1)).take (run symP (rest s (a + 1)))) = x at *
          generalize run symP (rest s (a + 1)) = r at *
          have C1 := Lib.hid c1
          have C2 := Lib.hid c2
          have C3 := Lib.hid c3
          have HX := Lib.hid hx
          have i0 : (0 : Int) ≤ (a : Int) + 1 := by omega
          have i1 : 0 ≤ (a : Int) + 1 + (r : Int) ∧ (a : Int) + 1 + (r : Int) ≤ (s.size : Int) := by omega
          have i2 : (a : Int) + 1 ≤ (a : Int) + 1 + (r : Int) := by omega
          clear c1 c2 c3 hx
          rcases hk with rfl | rfl | rfl
          · have hm' : more (rest s a) = (0, 0) := hm
            have FIN := Lib.hid (grow_final f (rest s n) kk m p (.inr (by rw [HD.out, hm'])))
            clear hm hm'
            go_wp2_with fail
            refine (C1.out _).mono ?_
            rintro e w1 ⟨rfl, rfl⟩
            go_wp2_with fail
            refine (C2.out _).mono ?_
            rintro e w1 ⟨rfl, rfl⟩
            go_wp2_with fail
            rw [HX.out]
            refine (C3.out _).mono ?_
            rintro e w1 ⟨rfl, hb1⟩
            have HB1 := Lib.hid hb1
            clear hb1
            go_wp2_with fail
            go_ret2
            exact ⟨by rw [← HQ.out, FIN.out]; dsimp only; (first | rw [← HAM.out] | rw [show (n : Int) + (m : Int) = (a : Int) from by have := HAM.out; omega]); rfl, HB1.out⟩
          · have hm' : more (rest s a) = (8, 1 + r) := hm
            have hfin := grow_final (f - 1) (rest s n) 8 (m + (1 + r)) m (.inl (by decide))
            have hf1 : f = (f - 1) + 1 := by omega
            have hg := grow_next (f - 1) (rest s n) kk m p HKK.out (by rw [HD.out, hm']; dsimp only; decide)
            rw [← hf1, HD.out, hm'] at hg
            dsimp only at hg
            rw [hfin] at hg
            have FIN := Lib.hid hg
            clear hm hm' hg hf1 hfin
            go_wp2_with fail
            refine (C1.out _).mono ?_
            rintro e w1 ⟨rfl, rfl⟩
            go_wp2_with fail
            refine (C2.out _).mono ?_
            rintro e w1 ⟨rfl, rfl⟩
            go_wp2_with fail
            rw [HX.out]
            refine (C3.out _).mono ?_
            rintro e w1 ⟨rfl, hb1⟩
            have HB1 := Lib.hid hb1
            clear hb1
            go_wp2_with fail
            go_ret2
            exact ⟨by rw [← HQ.out, FIN.out]; dsimp only; rw [← Nat.add_assoc, ← Nat.add_assoc, ← HAM.out]; rfl, HB1.out⟩
          · have hm' : more (rest s a) = (7, 1 + r) := hm
            have hfin := grow_final (f - 1) (rest s n) 7 (m + (1 + r)) m (.inl (by decide))
            have hf1 : f = (f - 1) + 1 := by omega
            have hg := grow_next (f - 1) (rest s n) kk m p HKK.out (by rw [HD.out, hm']; dsimp only; decide)
            rw [← hf1, HD.out, hm'] at hg
            dsimp only at hg
            rw [hfin] at hg
            have FIN := Lib.hid hg
            clear hm hm' hg hf1 hfin
            go_wp2_with fail
            refine (C1.out _).mono ?_
            rintro e w1 ⟨rfl, rfl⟩
            go_wp2_with fail
            refine (C2.out _).mono ?_
            rintro e w1 ⟨rfl, rfl⟩
            go_wp2_with fail
            rw [HX.out]
            refine (C3.out _).mono ?_
            rintro e w1 ⟨rfl, hb1⟩
            have HB1 := Lib.hid hb1
            clear hb1
            go_wp2_with fail
            go_ret2
            exact ⟨by rw [← HQ.out, FIN.out]; dsimp only; rw [← Nat.add_assoc, ← Nat.add_assoc, ← HAM.out]; rfl, HB1.out⟩
        · rw [e] at hm
          have hm' : more (rest s a) = (0, 0) := hm
          have FIN := Lib.hid (grow_final f (rest s n) kk m p (.inr (by rw [HD.out, hm'])))
          rw [c] at c1
          have C1 := Lib.hid c1
          clear e hm hm' c1 c
          go_wp2_with fail
          refine (C1.out _).mono ?_
          rintro e w1 ⟨rfl, rfl⟩
          go_wp2_with fail
          go_ret2
          exact ⟨by rw [← HQ.out, FIN.out]; dsimp only; (first | rw [← HAM.out] | rw [show (n : Int) + (m : Int) = (a : Int) from by have := HAM.out; omega]); rfl, Below.refl _ _⟩
      · have hm := more_off s a (.inr ⟨by omega, h2⟩)
        have FIN := Lib.hid (grow_final f (rest s n) kk m p (.inr (by rw [HD.out, hm])))
        have b1 : (((s[a].toNat : Nat) : Int) == 46) = false := by rw [beq_eq_false_iff_ne]; omega
        clear hm h2
        go_wp2_with fail
        go_ret2
        exact ⟨by rw [← HQ.out, FIN.out]; dsimp only; (first | rw [← HAM.out] | rw [show (n : Int) + (m : Int) = (a : Int) from by have := HAM.out; omega]); rfl, Below.refl _ _⟩
    · have hm := more_off s a (.inl h1)
      have FIN := Lib.hid (grow_final f (rest s n) kk m p (.inr (by rw [HD.out, hm])))
      clear hm
      go_wp2_with fail
      go_ret2
      exact ⟨by rw [← HQ.out, FIN.out]; dsimp only; (first | rw [← HAM.out] | rw [show (n : Int) + (m : Int) = (a : Int) from by have := HAM.out; omega]); rfl, Below.refl _ _⟩

/-- The document's own Scan answers what scanI says. -/
theorem scanI_in (s : ByteArray) (n : Nat) (h : n < s.size) : scanI s (n : Int) = lexI n (scan (rest s n)) := by
  unfold scanI
  rw [if_pos (by omega), Int.toNat_natCast]
theorem scanI_out (s : ByteArray) (i : Int) (h : ¬ (0 ≤ i ∧ i < s.size)) : scanI s i = (0, 0, 0) := by
  unfold scanI
  split
  · rename_i q
    rw [rest_nil s _ (by omega)]
    rfl
  · rfl
set_option maxHeartbeats 2000000 in
theorem refscan_any (s : ByteArray) (i : Int) (hs : s.size ≤ 1125899906842624) (w : World) :
    Calls Tryz.prog 44 #[.string s, .int .i64 i] w fun e w' => e = .returned (.tuple #[.int .i64 (scanI s i).1, .int .i64 (scanI s i).2.1]) ∧ Below w.heap.size w w' := by
  by_cases hin : 0 ≤ i ∧ i < s.size
  · obtain ⟨n, rfl⟩ := Int.eq_ofNat_of_zero_le (a := i) hin.1
    have hn : n < s.size := by omega
    clear hin
    rw [scanI_in s n hn]
    have c1 := fun W => refcls_any s n hs W
    rw [clsI_in s n hn] at c1
    dsimp only at c1
    rcases part_cases (rest s n) with ⟨e, h0 | ⟨k1, k2, k3, k4⟩⟩ | ⟨_, c, e⟩ | ⟨_, c, e⟩ | ⟨_, c, e⟩ | ⟨_, c, e⟩
    · exact absurd h0 (rest_ne s n hn)
    · have hr := scan_none (rest s n) (by rw [e])
      have HR : Hid (lexI n (scan (rest s n)) = (0, 0, 0)) := by unfold Hid; rw [hr]; rfl
      have b1 : (classI (rn (rest s n)) == 6) = false := by rw [beq_eq_false_iff_ne]; exact k4
      have b2 : (classI (rn (rest s n)) == 5) = false := by rw [beq_eq_false_iff_ne]; exact k3
      have b3 : (classI (rn (rest s n)) == 2) = false := by rw [beq_eq_false_iff_ne]; exact k1
      have b4 : (classI (rn (rest s n)) == 3) = false := by rw [beq_eq_false_iff_ne]; exact k2
      have C1 := Lib.hid c1
      clear e hr c1 k1 k2 k3 k4
      go_enter Tryz.func44, Tryz.ntmps44
      go_wp2_with fail
      refine (C1.out _).mono ?_
      rintro e w1 ⟨rfl, rfl⟩
      go_wp2_with fail
      go_ret2
      exact ⟨by rw [HR.out]; rfl, Below.refl _ _⟩
    · have hk := smallK_cases (bts ((rest s n).take (run nameB (rest s n))))
      have h1 := Lex.first (L := rest s n) (by rw [e]; dsimp only; omega)
      have hsc := scan_of_lex h1 (.inl (by rw [e]; dsimp only; omega))
      rw [e] at hsc
      have hr : lexI n (scan (rest s n)) = (smallK (bts ((rest s n).take (run nameB (rest s n)))), ((n + run nameB (rest s n) : Nat) : Int), 0) := by
        rw [hsc]
        unfold lexI
        rw [if_neg (by dsimp only; omega)]
        rfl
      rw [hr]
      exact refscan_small s n hs hn c w
    · have hr : lexI n (scan (rest s n)) = ((scan (rest s n)).1, ((n + (scan (rest s n)).2.1 : Nat) : Int), if (scan (rest s n)).2.2 = 0 then 0 else ((n + (scan (rest s n)).2.2 : Nat) : Int)) := by
        have hb := (scan_lex (rest s n) (by rw [e]; dsimp only; decide)).1.bd
        unfold lexI
        rw [if_neg hb.1]
      rw [hr]
      rw [c] at c1
      have C1 := Lib.hid c1
      have G : Hid (∀ W, Calls Tryz.prog 74 #[.string s, .int .i64 (n : Int)] W fun e w' => e = .returned (.tuple #[.int .i64 (scan (rest s n)).1, .int .i64 ((n + (scan (rest s n)).2.1 : Nat) : Int)]) ∧ Below W.heap.size W w') := fun W => refgreat_any s n hs hn c W
      clear e hr c1 c
      go_enter Tryz.func44, Tryz.ntmps44
      go_wp2_with fail
      refine (C1.out _).mono ?_
      rintro e w1 ⟨rfl, rfl⟩
      go_wp2_with fail
      refine (G.out _).mono ?_
      rintro e w1 ⟨rfl, hb1⟩
      have HB1 := Lib.hid hb1
      clear hb1
      go_wp2_with fail
      go_ret2
      exact ⟨rfl, HB1.out⟩
    · have hk := symK_cases (bts ((rest s n).take (run symP (rest s n))))
      have h1 := Lex.first (L := rest s n) (by rw [e]; dsimp only; omega)
      have hsc := scan_of_lex h1 (.inl (by rw [e]; dsimp only; omega))
      rw [e] at hsc
      have hrl := run_le symP _ (rest s n) (Nat.le_refl _)
      have hr2 := run_pos symP (rest s n) (rest_ne s n hn) (sym_of _ c)
      have hw := wd_pos (rest s n)
      have hll := rest_len s n
      have hr : lexI n (scan (rest s n)) = (symK (bts ((rest s n).take (run symP (rest s n)))), ((n + run symP (rest s n) : Nat) : Int), 0) := by
        rw [hsc]
        unfold lexI
        rw [if_neg (by dsimp only; omega)]
        rfl
      have hx := cut_bts s n (run symP (rest s n))
      have hz : 0 < (bts ((rest s n).take (run symP (rest s n)))).size := by
        rw [← hx, Lib.size_eq, Lib.extract_data, List.length_take, Nat.add_sub_cancel_left]
        change 0 < min (run symP (rest s n)) (rest s n).length
        omega
      have c2 := fun W => refrun_any s n hs (by omega) W
      have c3 := fun W => operator_any (bts ((rest s n).take (run symP (rest s n)))) hz W
      rw [hr]
      rw [c] at c1
      clear hr hsc h1 e c hk hz hw hr2
      generalize symK (bts ((rest s n).take (run symP (rest s n)))) = sk at *
      generalize bts ((rest s n).take (run symP (rest s n))) = x at *
      generalize run symP (rest s n) = r at *
      have C1 := Lib.hid c1
      have C2 := Lib.hid c2
      have C3 := Lib.hid c3
      have HX := Lib.hid hx
      have i0 : (0 : Int) ≤ (n : Int) := by omega
      have i1 : 0 ≤ (n : Int) + (r : Int) ∧ (n : Int) + (r : Int) ≤ (s.size : Int) := by omega
      clear c1 c2 c3 hx
      go_enter Tryz.func44, Tryz.ntmps44
      go_wp2_with fail
      refine (C1.out _).mono ?_
      rintro e w1 ⟨rfl, rfl⟩
      go_wp2_with fail
      refine (C2.out _).mono ?_
      rintro e w1 ⟨rfl, rfl⟩
      go_wp2_with fail
      rw [HX.out]
      refine (C3.out _).mono ?_
      rintro e w1 ⟨rfl, hb1⟩
      have HB1 := Lib.hid hb1
      clear hb1
      go_wp2_with fail
      go_ret2
      exact ⟨rfl, HB1.out⟩
    · have h1 := Lex.first (L := rest s n) (by rw [e]; dsimp only; decide)
      have hsc := scan_of_lex h1 (.inl (by rw [e]; dsimp only; decide))
      have hwd := (ascii_rn (rest s n) (spec_ascii _ c)).1
      rw [e, hwd] at hsc
      have HR : Hid (lexI n (scan (rest s n)) = (15, (n : Int) + 1, 0)) := by
        unfold Hid
        rw [hsc]
        rfl
      rw [c] at c1
      have C1 := Lib.hid c1
      clear c1 h1 hsc e c hwd
      go_enter Tryz.func44, Tryz.ntmps44
      go_wp2_with fail
      refine (C1.out _).mono ?_
      rintro e w1 ⟨rfl, rfl⟩
      go_wp2_with fail
      go_ret2
      exact ⟨by rw [HR.out]; rfl, Below.refl _ _⟩
  · have HR := Lib.hid (scanI_out s i hin)
    have c1 := fun W => refcls_any s i hs W
    have hcl : clsI s i = (0, 0) := by unfold clsI; rw [if_neg hin]
    rw [hcl] at c1
    have C1 := Lib.hid c1
    clear c1 hcl hin
    go_enter Tryz.func44, Tryz.ntmps44
    go_wp2_with fail
    refine (C1.out _).mono ?_
    rintro e w1 ⟨rfl, rfl⟩
    go_wp2_with fail
    go_ret2
    exact ⟨by rw [HR.out]; rfl, Below.refl _ _⟩
end Go.Proofs.YtkehchajgdepaaaGreatDoor.Wrd
