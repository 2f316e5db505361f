/-
  The walks of the statements QuoteAlone and QuoteBack. Conditions: the string of QuoteAlone has at most 2^20 bytes; the numbers of QuoteBack take at most 2^47 - 4096 bytes; the library's table of powers of ten and the program's list of names stand.
-/
import Derived.Test.YtdppfhgihoibnaaDoorQtSam
namespace Go.Proofs.YtdppfhgihoibnaaDoor.Qt
open Go.RowKit Gly
set_option linter.unusedSimpArgs false
set_option linter.unusedVariables false

theorem count_txt : ∀ (f : Nat) (L : List UInt8), (txtL f L).ps.length ≤ L.length
  | 0, _ => Nat.zero_le _
  | f + 1, L => by
    unfold txtL
    split
    · exact Nat.zero_le _
    · cases hp : pieceL L with
      | error e => exact Nat.zero_le _
      | ok p =>
        obtain ⟨l1, l2, l3⟩ := piece_len L p hp
        have := count_txt f (L.drop p.bytes.length)
        rw [List.length_drop] at this
        dsimp only
        rw [List.length_cons]
        omega
theorem count_read (L : List UInt8) : (chs (readL L).ps).length ≤ L.length + 1 := by
  refine Nat.le_trans (chs_len _) ?_
  unfold readL
  split
  · unfold chrL
    split
    · simp
    · cases hp : pieceL (L.drop 1) with
      | error e => simp
      | ok p =>
        dsimp only
        split
        · simp
        · split <;> simp
  · have := count_txt L.length (L.drop 1)
    rw [List.length_drop] at this
    omega
theorem scan_cases (s : ByteArray) (i : Int) : (scanI s i).1 = 0 ∨ ∃ n : Nat, i = (n : Int) ∧ n < s.size ∧ quoted (rest s n) = true ∧ (readL (rest s n)).err = 0 ∧ scanI s i = (if hd (rest s n) = 39 then 13 else 14, ((n + 1 + (readL (rest s n)).pos : Nat) : Int), 0) := by
  unfold scanI
  by_cases h0 : 0 ≤ i
  · rw [if_pos h0]
    obtain ⟨n, rfl⟩ := Int.eq_ofNat_of_zero_le h0
    rw [Int.toNat_natCast]
    cases hq : quoted (rest s n) with
    | false =>
      left
      unfold scanL
      rw [if_neg (by rw [hq]; decide)]
    | true =>
      by_cases he : (readL (rest s n)).err = 0
      · right
        refine ⟨n, rfl, ?_, hq, he, ?_⟩
        · rcases Nat.lt_or_ge n s.size with h | h
          · exact h
          · unfold quoted at hq
            rw [hd_rest_out s n h] at hq
            exact absurd hq (by decide)
        · unfold scanL
          rw [if_pos hq, he, if_pos rfl]
      · left
        unfold scanL
        rw [if_pos hq, if_neg he]
  · rw [if_neg h0]
    exact .inl rfl
theorem alone_none (s : ByteArray) (i x1 x2 : Int) (w : World) (ht : Tab w)
    (C : Hid (∀ W, Nam W → Calls Tryd.prog 10 #[.string s, .int .i64 i] W fun e w' => e = .returned (.tuple #[.int .i64 0, .int .i64 x1, .int .i64 x2]) ∧ Below W.heap.size W w')) :
    Calls Tryd.prog 9 #[.string s, .int .i64 i] w fun e w' => e = .returned (.bool true) ∧ Below w.heap.size w w' := by
  have HT := Lib.hid ht
  have A := Lib.hid (awake_any w ht)
  clear ht
  cases hx : (x2 != 0) with
  | true =>
    go_enter Tryd.func9, Tryd.ntmps9
    go_wp2_with fail
    refine A.out.mono ?_
    rintro e w1 ⟨rfl, hb1⟩
    have HB1 := Lib.hid hb1
    clear hb1
    go_wp2_with fail
    refine (C.out _ (HT.out.2.below HB1.out (Nat.le_refl _))).mono ?_
    rintro e w2 ⟨rfl, hb2⟩
    have HB2 := Lib.hid (HB1.out.trans (hb2.mono HB1.out.size))
    clear hb2
    go_wp2_with fail
    go_ret
    exact ⟨rfl, HB2.out⟩
  | false =>
    go_enter Tryd.func9, Tryd.ntmps9
    go_wp2_with fail
    refine A.out.mono ?_
    rintro e w1 ⟨rfl, hb1⟩
    have HB1 := Lib.hid hb1
    clear hb1
    go_wp2_with fail
    refine (C.out _ (HT.out.2.below HB1.out (Nat.le_refl _))).mono ?_
    rintro e w2 ⟨rfl, hb2⟩
    have HB2 := Lib.hid (HB1.out.trans (hb2.mono HB1.out.size))
    clear hb2
    go_wp2_with fail
    go_ret
    exact ⟨rfl, HB2.out⟩
theorem alone_some (s : ByteArray) (n E m q : Nat) (k : Int) (hk : k = 14 ∨ (k = 13 ∧ m = 1)) (hnE : n < E) (hEs : E ≤ s.size) (hs : s.size ≤ 1048576) (hq : (q : Int) = (E : Int) - (n : Int)) (w : World) (ht : Tab w)
    (C : Hid (∀ W, Nam W → Calls Tryd.prog 10 #[.string s, .int .i64 (n : Int)] W fun e w' => e = .returned (.tuple #[.int .i64 k, .int .i64 (E : Int), .int .i64 0]) ∧ Below W.heap.size W w'))
    (C3 : Hid (∀ W, Nam W → Calls Tryd.prog 13 #[.string (s.extract n E)] W fun e w' => ∃ ao cap, e = .returned (.tuple #[.slice ao m cap, .int .i64 0]) ∧ Below W.heap.size W w'))
    (C4 : Hid (∀ W, Nam W → Calls Tryd.prog 10 #[.string (s.extract n E), .int .i64 0] W fun e w' => e = .returned (.tuple #[.int .i64 k, .int .i64 (q : Int), .int .i64 0]) ∧ Below W.heap.size W w')) :
    Calls Tryd.prog 9 #[.string s, .int .i64 (n : Int)] w fun e w' => e = .returned (.bool true) ∧ Below w.heap.size w w' := by
  have HT := Lib.hid ht
  have A := Lib.hid (awake_any w ht)
  have y0 : decide ((n : Int) < 0) = false := decide_eq_false (by omega)
  have y1 : decide ((E : Int) ≤ (n : Int)) = false := decide_eq_false (by omega)
  have y2 : decide ((s.size : Int) < (E : Int)) = false := decide_eq_false (by omega)
  have y3 : ((q : Int) == (E : Int) - (n : Int)) = true := by rw [beq_iff_eq]; exact hq
  have i1 : (n : Int) ≤ (E : Int) := by omega
  have i2 : (E : Int) ≤ (s.size : Int) := by omega
  clear ht hq
  rcases hk with rfl | ⟨rfl, rfl⟩
  · go_enter Tryd.func9, Tryd.ntmps9
    go_wp2_with fail
    refine A.out.mono ?_
    rintro e w1 ⟨rfl, hb1⟩
    have HB1 := Lib.hid hb1
    clear hb1
    go_wp2_with fail
    refine (C.out _ (HT.out.2.below HB1.out (Nat.le_refl _))).mono ?_
    rintro e w2 ⟨rfl, hb2⟩
    have HB2 := Lib.hid (HB1.out.trans (hb2.mono HB1.out.size))
    clear hb2
    go_wp2_with fail
    refine (C3.out _ (HT.out.2.below HB2.out (Nat.le_refl _))).mono ?_
    rintro e w3 ⟨ao, cap, rfl, hb3⟩
    have HB3 := Lib.hid (HB2.out.trans (hb3.mono HB2.out.size))
    clear hb3
    go_wp2_with fail
    refine (C4.out _ (HT.out.2.below HB3.out (Nat.le_refl _))).mono ?_
    rintro e w4 ⟨rfl, hb4⟩
    have HB4 := Lib.hid (HB3.out.trans (hb4.mono HB3.out.size))
    clear hb4
    go_wp2_with fail
    go_ret
    exact ⟨rfl, HB4.out⟩
  · go_enter Tryd.func9, Tryd.ntmps9
    go_wp2_with fail
    refine A.out.mono ?_
    rintro e w1 ⟨rfl, hb1⟩
    have HB1 := Lib.hid hb1
    clear hb1
    go_wp2_with fail
    refine (C.out _ (HT.out.2.below HB1.out (Nat.le_refl _))).mono ?_
    rintro e w2 ⟨rfl, hb2⟩
    have HB2 := Lib.hid (HB1.out.trans (hb2.mono HB1.out.size))
    clear hb2
    go_wp2_with fail
    refine (C3.out _ (HT.out.2.below HB2.out (Nat.le_refl _))).mono ?_
    rintro e w3 ⟨ao, cap, rfl, hb3⟩
    have HB3 := Lib.hid (HB2.out.trans (hb3.mono HB2.out.size))
    clear hb3
    go_wp2_with fail
    refine (C4.out _ (HT.out.2.below HB3.out (Nat.le_refl _))).mono ?_
    rintro e w4 ⟨rfl, hb4⟩
    have HB4 := Lib.hid (HB3.out.trans (hb4.mono HB3.out.size))
    clear hb4
    go_wp2_with fail
    go_ret
    exact ⟨rfl, HB4.out⟩
theorem alone_walk (s : ByteArray) (i : Int) (hs : s.size ≤ 1048576) (hi : (Lit.int .i64 i).wf = true) (w : World) (ht : Tab w) :
    Calls Tryd.prog 9 #[.string s, .int .i64 i] w fun e w' => e = .returned (.bool true) ∧ Below w.heap.size w w' := by
  have c : ∀ W, Nam W → _ := fun W h => Scan_any s i (by omega) W h
  rcases scan_cases s i with h0 | ⟨n, rfl, hn, hq, he, hsc⟩
  · rw [h0] at c
    exact alone_none s i _ _ w ht c
  · rw [hsc] at c
    obtain ⟨a1, a2, a3, a4, a5⟩ := read_alone _ hq he
    obtain ⟨b1, b2, b3⟩ := alone_whole _ hq he
    rw [rest_len] at a5
    have hE : n + 1 + (readL (rest s n)).pos = n + (1 + (readL (rest s n)).pos) := by omega
    have ht0 : rest (s.extract n (n + 1 + (readL (rest s n)).pos)) 0 = (rest s n).take (1 + (readL (rest s n)).pos) := by
      rw [hE]
      exact sub_take s n _
    have hts : (s.extract n (n + 1 + (readL (rest s n)).pos)).size = 1 + (readL (rest s n)).pos := by
      rw [Lib.size_eq, hE, sub_take, a4]
    refine alone_some s n _ (chs (readL (rest s n)).ps).length (1 + (readL (rest s n)).pos) _ ?_ (by omega) (by omega) hs (by omega) w ht c ?_ ?_
    · by_cases h39 : hd (rest s n) = 39
      · rw [if_pos h39]
        exact .inr ⟨rfl, b3 h39⟩
      · rw [if_neg h39]
        exact .inl rfl
    · intro W hW
      have hcr := count_read (rest s n)
      rw [rest_len] at hcr
      have := Runes_any (s.extract n (n + 1 + (readL (rest s n)).pos)) (by rw [hts]; omega) (by rw [ht0, a1]; omega) W hW
      refine this.mono ?_
      rintro e w' ⟨v, rfl, h1, h2⟩
      rw [ht0, b2] at h1
      rw [ht0, b1]
      obtain ⟨ao, cap, hv⟩ := h1.arg.len
      rw [List.length_map] at hv
      exact ⟨ao, cap, by rw [hv], h2⟩
    · intro W hW
      have := Scan_any (s.extract n (n + 1 + (readL (rest s n)).pos)) 0 (by rw [hts]; omega) W hW
      have e : scanI (s.extract n (n + 1 + (readL (rest s n)).pos)) 0 = (if hd (rest s n) = 39 then 13 else 14, ((1 + (readL (rest s n)).pos : Nat) : Int), 0) := by
        unfold scanI
        rw [if_pos (by decide)]
        show scanL 0 (rest _ 0) = _
        rw [ht0]
        unfold scanL
        rw [a1, a2, a3, he, if_pos rfl, if_pos rfl]
        try simp
      rw [e] at this
      exact this

/-- QuoteBack. -/
theorem back_bad (v : Value) (x : Int) (hx : (x != 0) = true) (w : World) (ht : Tab w)
    (C : Hid (∀ W, Below w.heap.size w W → Calls Tryd.prog 16 #[v] W fun e w' => e = .returned (.tuple #[.string ⟨#[]⟩, .int .i64 x]) ∧ Below W.heap.size W w')) :
    Calls Tryd.prog 7 #[v] w fun e w' => e = .returned (.bool true) ∧ Below w.heap.size w w' := by
  have A := Lib.hid (awake_any w ht)
  clear ht
  go_enter Tryd.func7, Tryd.ntmps7
  go_wp2_with fail
  refine A.out.mono ?_
  rintro e w1 ⟨rfl, hb1⟩
  have HB1 := Lib.hid hb1
  clear hb1
  go_wp2_with fail
  refine (C.out _ HB1.out).mono ?_
  rintro e w2 ⟨rfl, hb2⟩
  have HB2 := Lib.hid (HB1.out.trans (hb2.mono HB1.out.size))
  clear hb2
  go_wp2_with fail
  go_ret
  exact ⟨rfl, HB2.out⟩
theorem back_good (v : Value) (zs : List Int) (t : ByteArray) (w : World) (ht : Tab w) (hv : ArgI w v zs) (hn : zs.length ≤ 140737488355328)
    (C : Hid (∀ W, Below w.heap.size w W → Calls Tryd.prog 16 #[v] W fun e w' => e = .returned (.tuple #[.string t, .int .i64 0]) ∧ Below W.heap.size W w'))
    (C1 : Hid (∀ W, Nam W → Calls Tryd.prog 13 #[.string t] W fun e w' => ∃ v', e = .returned (.tuple #[v', .int .i64 0]) ∧ ArgI w' v' zs ∧ Below W.heap.size W w'))
    (C2 : Hid (∀ W, Nam W → Calls Tryd.prog 10 #[.string t, .int .i64 0] W fun e w' => e = .returned (.tuple #[.int .i64 14, .int .i64 (t.size : Int), .int .i64 0]) ∧ Below W.heap.size W w')) :
    Calls Tryd.prog 7 #[v] w fun e w' => e = .returned (.bool true) ∧ Below w.heap.size w w' := by
  have A := Lib.hid (awake_any w ht)
  have HT := Lib.hid ht
  have HV := Lib.hid hv
  clear ht hv
  go_enter Tryd.func7, Tryd.ntmps7
  go_wp2_with fail
  refine A.out.mono ?_
  rintro e w1 ⟨rfl, hb1⟩
  have HB1 := Lib.hid hb1
  clear hb1
  go_wp2_with fail
  refine (C.out _ HB1.out).mono ?_
  rintro e w2 ⟨rfl, hb2⟩
  have HB2 := Lib.hid (HB1.out.trans (hb2.mono HB1.out.size))
  clear hb2
  go_wp2_with fail
  refine (C1.out _ (HT.out.2.below HB2.out (Nat.le_refl _))).mono ?_
  rintro e w3 ⟨v', rfl, a3, hb3⟩
  have HB3 := Lib.hid (HB2.out.trans (hb3.mono HB2.out.size))
  have A3 := Lib.hid a3
  clear hb3 a3
  go_wp2_with fail
  refine (C2.out _ (HT.out.2.below HB3.out (Nat.le_refl _))).mono ?_
  rintro e w4 ⟨rfl, hb4⟩
  have HB4 := Lib.hid (HB3.out.trans (hb4.mono HB3.out.size))
  have A4 := Lib.hid (A3.out.below hb4)
  clear hb4
  go_wp2_with fail
  have S := Same_any v v' zs zs hn w4 (HV.out.below HB4.out) A4.out
  rw [decide_eq_true rfl] at S
  refine S.mono ?_
  rintro e w5 ⟨rfl, hb5⟩
  have HB5 := Lib.hid (HB4.out.trans (hb5.mono HB4.out.size))
  clear hb5 S
  go_wp2_with fail
  go_ret
  exact ⟨rfl, HB5.out⟩
theorem nat_back : ∀ zs : List Int, zs.all okZ = true → (zs.map Int.toNat).map (fun (x : Nat) => (x : Int)) = zs ∧ ∀ c ∈ zs.map Int.toNat, c ≤ 1114111
  | [], _ => ⟨rfl, by simp⟩
  | z :: zs, h => by
    rw [List.all_cons, Bool.and_eq_true] at h
    obtain ⟨h1, h2⟩ := nat_back zs h.2
    obtain ⟨z0, z1⟩ := ok_z z h.1
    refine ⟨by rw [List.map_cons, List.map_cons, h1, Int.toNat_of_nonneg z0], ?_⟩
    intro c hc
    rw [List.map_cons, List.mem_cons] at hc
    rcases hc with rfl | hc
    · omega
    · exact h2 c hc
theorem back_walk (v : Value) (zs : List Int) (hl : zs.length * 8 ≤ 140737488351232) (w : World) (hv : ArgI w v zs) (ht : Tab w) :
    Calls Tryd.prog 7 #[v] w fun e w' => e = .returned (.bool true) ∧ Below w.heap.size w w' := by
  have c : ∀ W, Below w.heap.size w W → _ := fun W h => Write_any v zs hl W (ht.1.below h (Nat.le_refl _)) (hv.below h)
  cases hok : zs.all okZ with
  | false =>
    have hw : writeI zs = ([], 1) := by unfold writeI; rw [if_neg (by rw [hok]; decide)]
    rw [hw] at c
    exact back_bad v 1 rfl w ht c
  | true =>
    have hw : writeI zs = (34 :: (wrL false (zs.map Int.toNat) ++ [34]), 0) := by unfold writeI; rw [if_pos hok]
    rw [hw] at c
    obtain ⟨n1, n2⟩ := nat_back zs hok
    obtain ⟨k1, k2, k3, k4⟩ := write_read _ n2
    have hwl := wr_len _ false n2
    rw [List.length_map] at hwl
    obtain ⟨t, ht0⟩ : ∃ t : ByteArray, (⟨(34 :: (wrL false (zs.map Int.toNat) ++ [34])).toArray⟩ : ByteArray) = t := ⟨_, rfl⟩
    have htl : t.data.toList = 34 :: (wrL false (zs.map Int.toNat) ++ [34]) := by rw [← ht0]
    have hr0 : rest t 0 = 34 :: (wrL false (zs.map Int.toNat) ++ [34]) := htl
    have hts : t.size = (wrL false (zs.map Int.toNat)).length + 2 := by
      rw [Lib.size_eq, htl, List.length_cons, List.length_append]
      rfl
    dsimp only at c
    rw [ht0] at c
    refine back_good v zs t w ht hv (by omega) c ?_ ?_
    · intro W hW
      have := Runes_any t (by omega) (by rw [hr0, k1]; dsimp only; rw [pcs_chs, List.length_map]; omega) W hW
      refine this.mono ?_
      rintro e w' ⟨v', rfl, h1, h2⟩
      rw [hr0, k4] at h1
      rw [hr0, k3]
      have h3 := h1.arg
      rw [n1] at h3
      exact ⟨v', rfl, h3, h2⟩
    · intro W hW
      have := Scan_any t 0 (by omega) W hW
      have e : scanI t 0 = (14, (t.size : Int), 0) := by
        unfold scanI
        rw [if_pos (by decide)]
        show scanL 0 (rest t 0) = _
        rw [hr0]
        unfold scanL
        rw [k1, if_pos k2, hts]
        simp [hd]
        omega
      rw [e] at this
      exact this
end Go.Proofs.YtdppfhgihoibnaaDoor.Qt
