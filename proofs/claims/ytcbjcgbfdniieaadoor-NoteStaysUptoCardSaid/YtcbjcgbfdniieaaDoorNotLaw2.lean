/-
  The walks of the statements NoteStays, NoteClean and NoteWhole. Conditions: strings of lengths that a program can hold; where lines are made, at most 2^20 bytes; some variable of the library's own holds some number.
-/
import Derived.Test.YtcbjcgbfdniieaaDoorNotLaw
namespace Go.Proofs.YtcbjcgbfdniieaaDoor.Not
open Go.RowKit Gly
open Plc (linesL)
set_option linter.unusedSimpArgs false
set_option linter.unusedVariables false

theorem tidyS_no {s : ByteArray} {c : Int} (h : tidyE s c ≠ 0) : tidyS s c = ByteArray.empty := if_neg h
theorem tidyE_ok {s : ByteArray} {c : Int} (h : tidyE s c = 0) : ∃ n : Nat, c = (n : Int) ∧ 1 ≤ n ∧ n ≤ 65536 ∧ kindN s.data.toList ≠ 0 := by
  unfold tidyE at h
  by_cases hc : c < 1 ∨ 65536 < c
  · rw [if_pos hc] at h
    exact absurd h (by decide)
  · rw [if_neg hc] at h
    obtain ⟨n, rfl⟩ := Int.eq_ofNat_of_zero_le (a := c) (by omega)
    refine ⟨n, rfl, by omega, by omega, fun hk => ?_⟩
    rw [if_pos hk] at h
    exact absurd h (by decide)
theorem tidyE_is {s : ByteArray} {n : Nat} (h1 : 1 ≤ n) (h2 : n ≤ 65536) (hk : kindN s.data.toList ≠ 0) : tidyE s (n : Int) = 0 := by
  unfold tidyE
  rw [if_neg (by omega), if_neg hk]
theorem tidyS_is {s : ByteArray} {n : Nat} (h1 : 1 ≤ n) (h2 : n ≤ 65536) (hk : kindN s.data.toList ≠ 0) : (tidyS s (n : Int)).data.toList = tidyB (n + 2) s.data.toList := by
  unfold tidyS
  rw [if_pos (tidyE_is h1 h2 hk), Int.toNat_natCast]
theorem datas_inj : ∀ {F G : List ByteArray}, datas F = datas G → F = G
  | [], [], _ => rfl
  | [], _ :: _, h => by cases h
  | _ :: _, [], h => by cases h
  | x :: F, y :: G, h => by
    have h1 : x.data.toList = y.data.toList ∧ datas F = datas G := by
      unfold datas at h ⊢
      simpa using h
    rw [bytes_ext h1.1, datas_inj h1.2]
theorem tidy_len_small (s : ByteArray) (n : Nat) (hs : s.size ≤ 1048576) (hn : n ≤ 65538) : (tidyB n s.data.toList).length ≤ 68725833728 := by
  have := tidy_len n s.data.toList
  have h2 : (s.data.toList.length + 1) * (n + 1) ≤ 1048577 * 65539 := Nat.mul_le_mul (by rw [← Lib.size_eq]; omega) (by omega)
  rw [← Lib.size_eq] at *
  omega
theorem tidy_lines (s : ByteArray) (n : Nat) (hs : s.size ≤ 1048576) (hn : n ≤ 65538) : ∀ l ∈ linesB (tidyB n s.data.toList), l.length < 4294967281 := by
  have hb : ∀ m ∈ barL s.data.toList, m.length ≤ 1048576 := by
    intro m hm
    unfold barL at hm
    obtain ⟨l, hl, rfl⟩ := List.mem_map.1 hm
    have h1 := bareB_le l
    have h2 := total_mem _ _ hl
    have h3 := (lines_total s.data.toList false).1
    have h4 := Lib.size_eq s
    unfold linesB at h2
    omega
  have hbr := barL_bare s.data.toList
  unfold tidyB
  match hL : barL s.data.toList, hb, hbr with
  | [], _, _ => exact absurd hL (barL_ne _)
  | l :: ls, hb, hbr =>
    intro x hx
    rw [joinB, lines_tail n ls l ((hbr l (by simp)).noNl) (fun m hm => hbr m (by simp [hm]))] at hx
    rcases List.mem_cons.1 hx with rfl | hx
    · have := hb x (by simp)
      omega
    · obtain ⟨m, hm, rfl⟩ := List.mem_map.1 hx
      have := hb m (by simp [hm])
      split
      · simp
      · rw [List.length_append, List.length_replicate]
        omega
theorem tidy_Ok (s t : ByteArray) (n : Nat) (hs : s.size ≤ 1048576) (hn : n ≤ 65538) (ht : t.data.toList = tidyB n s.data.toList) : Ok t := by
  refine ⟨?_, fun x hx => ?_⟩
  · have := tidy_len_small s n hs hn
    rw [Lib.size_eq, ht]
    omega
  · have h1 : x.data.toList ∈ linesB t.data.toList := by
      rw [← lines_link]
      exact List.mem_map_of_mem hx
    rw [ht] at h1
    rw [Lib.size_eq]
    exact tidy_lines s n hs hn _ h1

set_option maxHeartbeats 1000000 in
theorem stays_walk (a0 : ByteArray) (a1 : Int) (z0 : a0.size ≤ 1048576) (w1 : (Lit.int .i64 a1).wf = true) (w : World) (hm : Mx w) :
    Calls Tryd.prog 8 #[.string a0, .int .i64 a1] w fun e w' => e = .returned (.bool true) ∧ Below w.heap.size w w' := by
  have HM := Lib.hid hm
  have hOk : Ok a0 := Ok.of_small z0
  have c1 := fun W hW => Tidy_all a0 a1 hOk (fun n hn => tidy_small a0 _ z0 (by omega)) W hW
  by_cases hx : tidyE a0 a1 = 0
  · obtain ⟨n, rfl, h1, h2, hk⟩ := tidyE_ok hx
    have ht := tidyS_is h1 h2 hk
    rw [hx] at c1
    generalize tidyS a0 (n : Int) = t at *
    have htk : kindN t.data.toList = kindN a0.data.toList := by
      rw [ht]
      exact keep_kind _ _ hk
    have htO : Ok t := tidy_Ok a0 t _ z0 (by omega) ht
    have htt : ∀ m : Nat, tidyB (m + 2) t.data.toList = tidyB (m + 2) a0.data.toList := fun m => by rw [ht]; exact tidy_tidy _ _ _
    have c2 := fun W hW => Tidy_all t (n : Int) htO (fun m hm => by rw [htt]; exact tidy_small a0 _ z0 (by omega)) W hW
    have e2 : tidyE t (n : Int) = 0 := tidyE_is h1 h2 (by rw [htk]; exact hk)
    have e3 : tidyS t (n : Int) = t := bytes_ext (by rw [tidyS_is h1 h2 (by rw [htk]; exact hk), htt, ht])
    rw [e2, e3] at c2
    have c3 := fun W => Kind_any t htO.size W
    have c4 := fun W => Kind_any a0 (by omega) W
    rw [htk] at c3
    have c5 := fun W hW => Same_any a0 t hOk htO W hW
    have e5 : sameB a0 t = true := by
      rw [sameB_both hk (by rw [htk]; exact hk), decide_eq_true_iff]
      apply datas_inj
      show (barS a0).map (·.data.toList) = (barS t).map (·.data.toList)
      rw [barS_data, barS_data, ht, barL_tidy]
    rw [e5] at c5
    generalize kindN a0.data.toList = k at *
    have t1 : ((k : Int) != 0) = true := by rw [bne_iff_ne]; omega
    have C1 := Lib.hid c1
    have C2 := Lib.hid c2
    have C3 := Lib.hid c3
    have C4 := Lib.hid c4
    have C5 := Lib.hid c5
    clear c1 c2 c3 c4 c5 hm w1 hOk hx ht htk htO htt e2 e3 e5 hk
    go_enter Tryd.func8, Tryd.ntmps8
    go_wp2_with fail
    refine (awake_any _ HM.out).mono ?_
    rintro e w1 ⟨rfl, hb⟩
    have HB1 := Lib.hid hb
    clear hb
    go_wp2_with fail
    refine (C1.out _ (HM.out.below HB1.out (Nat.le_refl _))).mono ?_
    rintro e w2 ⟨rfl, hb⟩
    have HB2 := Lib.hid (below_trans HB1.out hb)
    clear hb
    go_wp2_with fail
    refine (C2.out _ (HM.out.below HB2.out (Nat.le_refl _))).mono ?_
    rintro e w3 ⟨rfl, hb⟩
    have HB3 := Lib.hid (below_trans HB2.out hb)
    clear hb
    go_wp2_with fail
    refine (C3.out _).mono ?_
    rintro e w4 ⟨rfl, hb⟩
    have HB4 := Lib.hid (below_trans HB3.out hb)
    clear hb
    go_wp2_with fail
    refine (C4.out _).mono ?_
    rintro e w5 ⟨rfl, hb⟩
    have HB5 := Lib.hid (below_trans HB4.out hb)
    clear hb
    go_wp2_with fail
    refine (C4.out _).mono ?_
    rintro e w6 ⟨rfl, hb⟩
    have HB6 := Lib.hid (below_trans HB5.out hb)
    clear hb
    go_wp2_with fail
    refine (C5.out _ (HM.out.below HB6.out (Nat.le_refl _))).mono ?_
    rintro e w7 ⟨rfl, hb⟩
    have HB7 := Lib.hid (below_trans HB6.out hb)
    clear hb
    go_wp2_with fail
    go_ret
    exact ⟨by first | rfl | simp, HB7.out⟩
  · have e1 := tidyS_no hx
    rw [e1] at c1
    generalize tidyE a0 a1 = x at *
    have t1 : (x != 0) = true := by rw [bne_iff_ne]; exact hx
    have C1 := Lib.hid c1
    clear c1 hm w1 hOk hx e1
    go_enter Tryd.func8, Tryd.ntmps8
    go_wp2_with fail
    refine (awake_any _ HM.out).mono ?_
    rintro e w1 ⟨rfl, hb⟩
    have HB1 := Lib.hid hb
    clear hb
    go_wp2_with fail
    refine (C1.out _ (HM.out.below HB1.out (Nat.le_refl _))).mono ?_
    rintro e w2 ⟨rfl, hb⟩
    have HB2 := Lib.hid (below_trans HB1.out hb)
    clear hb
    go_wp2_with fail
    go_ret
    exact ⟨by first | rfl | simp, HB2.out⟩

theorem clean_facts (t : ByteArray) (p : Nat) (hc : clean t.data.toList = true) (hp : p < t.size) :
    t[p].toNat ≠ 9 ∧ ¬ (11 ≤ t[p].toNat ∧ t[p].toNat ≤ 13) ∧ (t[p].toNat = 32 → ∃ h : p + 1 < t.size, t[p + 1].toNat ≠ 10) := by
  have hl := Lib.size_eq t
  have hb := clean_at t.data.toList p t[p] hc (by rw [List.getElem?_eq_getElem (by omega)]; rfl)
  have hr : t.data.toList.drop (p + 1) = rest t (p + 1) := rfl
  rw [hr] at hb
  unfold bad at hb
  rw [Bool.or_eq_false_iff, Bool.or_eq_false_iff] at hb
  obtain ⟨⟨h1, h2⟩, h3⟩ := hb
  refine ⟨fun h => ?_, fun h => ?_, fun h => ?_⟩
  · rw [(u8_eq _ 9 (by decide)).1 h] at h1
    exact absurd h1 (by decide)
  · rw [decide_eq_true h.1, decide_eq_true h.2] at h2
    exact absurd h2 (by decide)
  · rw [(u8_eq _ 32 (by decide)).1 h] at h3
    by_cases h4 : p + 1 < t.size
    · refine ⟨h4, fun h5 => ?_⟩
      rw [rest_cons t (p + 1) h4, (u8_eq _ 10 (by decide)).1 h5] at h3
      exact absurd h3 (by simp)
    · rw [rest_nil t _ (by omega)] at h3
      exact absurd h3 (by decide)

set_option maxRecDepth 100000 in
set_option maxHeartbeats 4000000 in
theorem clean_walk (a0 : ByteArray) (a1 : Int) (z0 : a0.size ≤ 1048576) (w1 : (Lit.int .i64 a1).wf = true) (w : World) (hm : Mx w) :
    Calls Tryd.prog 9 #[.string a0, .int .i64 a1] w fun e w' => e = .returned (.bool true) ∧ Below w.heap.size w w' := by
  have HM := Lib.hid hm
  have hOk : Ok a0 := Ok.of_small z0
  have c1 := fun W hW => Tidy_all a0 a1 hOk (fun n hn => tidy_small a0 _ z0 (by omega)) W hW
  by_cases hx : tidyE a0 a1 = 0
  · obtain ⟨n, rfl, h1, h2, hk⟩ := tidyE_ok hx
    have ht := tidyS_is h1 h2 hk
    rw [hx] at c1
    generalize tidyS a0 (n : Int) = t at *
    have hc : clean t.data.toList = true := by
      rw [ht]
      exact clean_tidy _ _
    have hsz : t.size ≤ 70368744177664 := by
      rw [Lib.size_eq, ht]
      exact tidy_small a0 _ z0 (by omega)
    have HCL := Lib.hid (clean_facts t · hc)
    have C1 := Lib.hid c1
    clear c1 hm w1 hOk hx ht hc hk
    go_enter Tryd.func9, Tryd.ntmps9
    go_wp2_with fail
    refine (awake_any _ HM.out).mono ?_
    rintro e w1 ⟨rfl, hb⟩
    have HB1 := Lib.hid hb
    clear hb
    go_wp2_with fail
    refine (C1.out _ (HM.out.below HB1.out (Nat.le_refl _))).mono ?_
    rintro e w2 ⟨rfl, hb⟩
    have HB2 := Lib.hid (below_trans HB1.out hb)
    clear hb
    go_wp2_with fail
    go_loop [8] (fun iv => ∃ p : Nat, iv = .int .i64 (p : Int) ∧ p ≤ t.size) (fun iv => t.size - (intOf iv).toNat)
    case atStart => exact ⟨0, rfl, by omega⟩
    case round =>
      obtain ⟨p, rfl, hp0⟩ := hrel
      by_cases hp : p < t.size
      · obtain ⟨f1, f2, f3⟩ := HCL.out p hp
        obtain ⟨v, hv⟩ : ∃ v, t[p].toNat = v := ⟨_, rfl⟩
        rw [hv] at f1 f2 f3
        have y1 : ((v : Int) == 9) = false := by rw [beq_eq_false_iff_ne]; omega
        by_cases v11 : v < 11
        · have y2 : ¬ 11 ≤ v := by omega
          have y3 : ((v : Int) == 32) = false := by rw [beq_eq_false_iff_ne]; omega
          have y4 : ((11 : Int) ≤ (v : Int)) = False := by simp; omega
          clear f1 f2 f3
          go_wp2_with fail
          go_round
          case rel => exact ⟨p + 1, by go_num, by omega⟩
          case measure => simp [intOf]; omega
        · have y2 : 11 ≤ v := by omega
          have y3 : ¬ v ≤ 13 := by omega
          by_cases v32 : v = 32
          · obtain ⟨hp1, hne⟩ := f3 v32
            obtain ⟨u, hu⟩ : ∃ u, t[p + 1].toNat = u := ⟨_, rfl⟩
            rw [hu] at hne
            have y4 : ((u : Int) == 10) = false := by rw [beq_eq_false_iff_ne]; omega
            have y5 : ((p : Int) + 1 == (t.size : Int)) = false := by rw [beq_eq_false_iff_ne]; omega
            subst v32
            clear f1 f2 f3
            go_wp2_with fail
            go_round
            case rel => exact ⟨p + 1, by go_num, by omega⟩
            case measure => simp [intOf]; omega
          · have y4 : ((v : Int) == 32) = false := by rw [beq_eq_false_iff_ne]; omega
            clear f1 f2 f3
            go_wp2_with fail
            go_round
            case rel => exact ⟨p + 1, by go_num, by omega⟩
            case measure => simp [intOf]; omega
      · go_wp2_with fail
        go_ret
        exact ⟨rfl, HB2.out⟩
  · have e1 := tidyS_no hx
    rw [e1] at c1
    generalize tidyE a0 a1 = x at *
    have t1 : (x != 0) = true := by rw [bne_iff_ne]; exact hx
    have C1 := Lib.hid c1
    clear c1 hm w1 hOk hx e1
    go_enter Tryd.func9, Tryd.ntmps9
    go_wp2_with fail
    refine (awake_any _ HM.out).mono ?_
    rintro e w1 ⟨rfl, hb⟩
    have HB1 := Lib.hid hb
    clear hb
    go_wp2_with fail
    refine (C1.out _ (HM.out.below HB1.out (Nat.le_refl _))).mono ?_
    rintro e w2 ⟨rfl, hb⟩
    have HB2 := Lib.hid (below_trans HB1.out hb)
    clear hb
    go_wp2_with fail
    go_ret
    exact ⟨rfl, HB2.out⟩
end Go.Proofs.YtcbjcgbfdniieaaDoor.Not
