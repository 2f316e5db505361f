/-
  The contract of package quote's Write. Conditions: the numbers take at most 2^47 - 4096 bytes; the library's table of powers of ten stands.
-/
import Derived.Test.YtdppfhgihoibnaaDoorQtRun
namespace Go.Proofs.YtdppfhgihoibnaaDoor.Qt
open Go.RowKit Gly
open Go.Lib (decDigits)
set_option linter.unusedSimpArgs false
set_option linter.unusedVariables false

theorem enc_ascii : ∀ c : Nat, c < 128 → Utf8.encode (c : Int) = ⟨#[UInt8.ofNat c]⟩ := by decide +kernel
theorem conv_rune (c : Nat) (h : c < 128) (W : World) : (convert 21 9 (.int .i32 (c : Int))).run Tryd.prog W = .ok (.string ⟨#[UInt8.ofNat c]⟩) W := by
  have := run_convert_int_string (P := Tryd.prog) W 21 9 .i32 (c : Int) (by rw [Tryd.underlying21]; rfl) Tryd.underlying9
  rw [enc_ascii c h] at this
  exact this
theorem conv_byte (c : Nat) (h : c < 128) (W : World) : (convert 5 9 (.int .u8 (c : Int))).run Tryd.prog W = .ok (.string ⟨#[UInt8.ofNat c]⟩) W := by
  have := run_convert_int_string (P := Tryd.prog) W 5 9 .u8 (c : Int) (by rw [Tryd.underlying5]; rfl) Tryd.underlying9
  rw [enc_ascii c h] at this
  exact this
theorem add_bytes (x y : List UInt8) (h : x.length + y.length ≤ 1000) (W : World) : (Op.stringOp .add ⟨x.toArray⟩ ⟨y.toArray⟩).run Tryd.prog W = .ok (.string ⟨(x ++ y).toArray⟩) W :=
  run_string_add_lists (P := Tryd.prog) W x y (by omega) (by omega)

theorem lett_is (n : Nat) (w : World) : Calls Tryd.prog 42 #[.int .i64 (n : Int)] w fun e w' => e = .returned (.bool (isLet n)) ∧ w = w' := by
  by_cases h1 : 7 ≤ n
  · by_cases h2 : n ≤ 13
    · have a1 : decide ((7 : Int) ≤ (n : Int)) = true := decide_eq_true (by omega)
      have a2 : decide ((n : Int) < 14) = true := decide_eq_true (by omega)
      go_enter Tryd.func42, Tryd.ntmps42
      go_wp2
      go_ret
      exact ⟨by unfold isLet; rw [decide_eq_true h1, decide_eq_true h2]; rfl, rfl⟩
    · have a1 : decide ((7 : Int) ≤ (n : Int)) = true := decide_eq_true (by omega)
      have a2 : decide ((n : Int) < 14) = false := decide_eq_false (by omega)
      go_enter Tryd.func42, Tryd.ntmps42
      go_wp2
      go_ret
      exact ⟨by unfold isLet; rw [decide_eq_true h1, decide_eq_false h2]; rfl, rfl⟩
  · have a1 : decide ((7 : Int) ≤ (n : Int)) = false := decide_eq_false (by omega)
    go_enter Tryd.func42, Tryd.ntmps42
    go_wp2
    go_ret
    exact ⟨by unfold isLet; rw [decide_eq_false h1]; rfl, rfl⟩
theorem num_is (n : Nat) (w : World) : Calls Tryd.prog 30 #[.int .i64 (n : Int)] w fun e w' => e = .returned (.bool (isNum n)) ∧ w = w' := by
  have c1 := fun W => lett_is n W
  by_cases h1 : n < 32
  · have a1 : decide ((n : Int) < 32) = true := decide_eq_true (by omega)
    have a2 : decide ((126 : Int) < (n : Int)) = false := decide_eq_false (by omega)
    cases hb : isLet n with
    | true =>
      rw [hb] at c1
      have HR : Hid (isNum n = false) := by unfold Hid isNum; rw [hb, decide_eq_true h1, decide_eq_false (show ¬ 126 < n by omega)]; rfl
      have C1 := Lib.hid c1
      clear c1 hb h1
      go_enter Tryd.func30, Tryd.ntmps30
      go_wp2_with fail
      refine (C1.out _).mono ?_
      rintro e w1 ⟨rfl, rfl⟩
      go_wp2_with fail
      go_ret
      exact ⟨by rw [HR.out] <;> rfl, rfl⟩
    | false =>
      rw [hb] at c1
      have HR : Hid (isNum n = true) := by unfold Hid isNum; rw [hb, decide_eq_true h1]; rfl
      have C1 := Lib.hid c1
      clear c1 hb h1
      go_enter Tryd.func30, Tryd.ntmps30
      go_wp2_with fail
      refine (C1.out _).mono ?_
      rintro e w1 ⟨rfl, rfl⟩
      go_wp2_with fail
      go_ret
      exact ⟨by rw [HR.out] <;> rfl, rfl⟩
  · have a1 : decide ((n : Int) < 32) = false := decide_eq_false (by omega)
    by_cases h2 : 126 < n
    · have a2 : decide ((126 : Int) < (n : Int)) = true := decide_eq_true (by omega)
      have HR : Hid (isNum n = true) := by unfold Hid isNum; rw [decide_eq_true h2]; simp
      clear c1 h1 h2
      go_enter Tryd.func30, Tryd.ntmps30
      go_wp2_with fail
      go_ret
      exact ⟨by rw [HR.out] <;> rfl, rfl⟩
    · have a2 : decide ((126 : Int) < (n : Int)) = false := decide_eq_false (by omega)
      have HR : Hid (isNum n = false) := by unfold Hid isNum; rw [decide_eq_false h2, decide_eq_false h1]; rfl
      clear c1 h1 h2
      go_enter Tryd.func30, Tryd.ntmps30
      go_wp2_with fail
      go_ret
      exact ⟨by rw [HR.out] <;> rfl, rfl⟩

theorem written_let (c : Nat) (h : isLet c = true) (w : World) :
    Calls Tryd.prog 29 #[.int .i64 (c : Int)] w fun e w' => e = .returned (.string ⟨(wr1 c).toArray⟩) ∧ w = w' := by
  have c1 := fun W => lett_is c W
  rw [h] at c1
  have hw : wr1 c = [92, lets.getD (c - 7) 0] := by unfold wr1; rw [if_pos h]
  rw [hw]
  have C1 := Lib.hid c1
  have hc : 7 ≤ c ∧ c ≤ 13 := by unfold isLet at h; simpa using h
  have hcb := fun (x : Nat) (hx : x < 128) W => conv_byte x hx W
  clear c1 h hw
  rcases (show c = 7 ∨ c = 8 ∨ c = 9 ∨ c = 10 ∨ c = 11 ∨ c = 12 ∨ c = 13 by omega) with rfl | rfl | rfl | rfl | rfl | rfl | rfl
  · have k1 := hcb 97 (by omega)
    clear hc hcb
    go_enter Tryd.func29, Tryd.ntmps29
    go_wp2_with fail
    refine (C1.out _).mono ?_
    rintro e w1 ⟨rfl, rfl⟩
    go_wp2_with fail
    go_ret
    exact ⟨by kernel_rfl, rfl⟩
  · have k1 := hcb 98 (by omega)
    clear hc hcb
    go_enter Tryd.func29, Tryd.ntmps29
    go_wp2_with fail
    refine (C1.out _).mono ?_
    rintro e w1 ⟨rfl, rfl⟩
    go_wp2_with fail
    go_ret
    exact ⟨by kernel_rfl, rfl⟩
  · have k1 := hcb 116 (by omega)
    clear hc hcb
    go_enter Tryd.func29, Tryd.ntmps29
    go_wp2_with fail
    refine (C1.out _).mono ?_
    rintro e w1 ⟨rfl, rfl⟩
    go_wp2_with fail
    go_ret
    exact ⟨by kernel_rfl, rfl⟩
  · have k1 := hcb 110 (by omega)
    clear hc hcb
    go_enter Tryd.func29, Tryd.ntmps29
    go_wp2_with fail
    refine (C1.out _).mono ?_
    rintro e w1 ⟨rfl, rfl⟩
    go_wp2_with fail
    go_ret
    exact ⟨by kernel_rfl, rfl⟩
  · have k1 := hcb 118 (by omega)
    clear hc hcb
    go_enter Tryd.func29, Tryd.ntmps29
    go_wp2_with fail
    refine (C1.out _).mono ?_
    rintro e w1 ⟨rfl, rfl⟩
    go_wp2_with fail
    go_ret
    exact ⟨by kernel_rfl, rfl⟩
  · have k1 := hcb 102 (by omega)
    clear hc hcb
    go_enter Tryd.func29, Tryd.ntmps29
    go_wp2_with fail
    refine (C1.out _).mono ?_
    rintro e w1 ⟨rfl, rfl⟩
    go_wp2_with fail
    go_ret
    exact ⟨by kernel_rfl, rfl⟩
  · have k1 := hcb 114 (by omega)
    clear hc hcb
    go_enter Tryd.func29, Tryd.ntmps29
    go_wp2_with fail
    refine (C1.out _).mono ?_
    rintro e w1 ⟨rfl, rfl⟩
    go_wp2_with fail
    go_ret
    exact ⟨by kernel_rfl, rfl⟩
theorem written_num (c : Nat) (h : isLet c = false) (h2 : isNum c = true) (hc : c ≤ 1114111) (w : World) (hp : Pow w) :
    Calls Tryd.prog 29 #[.int .i64 (c : Int)] w fun e w' => e = .returned (.string ⟨(wr1 c).toArray⟩) ∧ Below w.heap.size w w' := by
  have c1 := fun W => lett_is c W
  have c2 := fun W => num_is c W
  rw [h] at c1
  rw [h2] at c2
  have hw : wr1 c = 92 :: decDigits c := by unfold wr1; rw [if_neg (by rw [h]; decide), if_pos h2]
  rw [hw]
  have c3 := itoa_any c (by omega) w hp
  have ha : ∀ W, (Op.stringOp .add ⟨#[92]⟩ ⟨(decDigits c).toArray⟩).run Tryd.prog W = .ok (.string ⟨([92] ++ decDigits c).toArray⟩) W := fun W => add_bytes [92] (decDigits c) (by have := dec_len c hc; simp; omega) W
  generalize decDigits c = D at *
  have C1 := Lib.hid c1
  have C2 := Lib.hid c2
  have C3 := Lib.hid c3
  clear c1 c2 c3 hw h h2 hp
  go_enter Tryd.func29, Tryd.ntmps29
  go_wp2_with fail
  refine (C1.out _).mono ?_
  rintro e w1 ⟨rfl, rfl⟩
  go_wp2_with fail
  refine (C2.out _).mono ?_
  rintro e w1 ⟨rfl, rfl⟩
  go_wp2_with fail
  refine C3.out.mono ?_
  rintro e w2 ⟨rfl, hb2⟩
  have HB2 := Lib.hid hb2
  clear hb2
  go_wp2_with fail
  go_ret
  exact ⟨rfl, HB2.out⟩
theorem written_own (c : Nat) (h : isLet c = false) (h2 : isNum c = false) (hc : c < 127) (w : World) :
    Calls Tryd.prog 29 #[.int .i64 (c : Int)] w fun e w' => e = .returned (.string ⟨(wr1 c).toArray⟩) ∧ w = w' := by
  have c1 := fun W => lett_is c W
  have c2 := fun W => num_is c W
  rw [h] at c1
  rw [h2] at c2
  have hw : wr1 c = if c = 34 ∨ c = 92 then [92, UInt8.ofNat c] else [UInt8.ofNat c] := by unfold wr1; rw [if_neg (by rw [h]; decide), if_neg (by rw [h2]; decide)]
  rw [hw]
  have k1 := fun W => conv_rune c (by omega) W
  have ha : ∀ W, (Op.stringOp .add ⟨#[92]⟩ ⟨#[UInt8.ofNat c]⟩).run Tryd.prog W = .ok (.string ⟨#[92, UInt8.ofNat c]⟩) W := fun W => add_bytes [92] [UInt8.ofNat c] (by simp) W
  have C1 := Lib.hid c1
  have C2 := Lib.hid c2
  clear c1 c2 hw h h2
  by_cases q1 : c = 34
  · subst q1
    go_enter Tryd.func29, Tryd.ntmps29
    go_wp2_with fail
    refine (C1.out _).mono ?_
    rintro e w1 ⟨rfl, rfl⟩
    go_wp2_with fail
    refine (C2.out _).mono ?_
    rintro e w1 ⟨rfl, rfl⟩
    go_wp2_with fail
    go_ret
    exact ⟨rfl, rfl⟩
  by_cases q2 : c = 92
  · subst q2
    go_enter Tryd.func29, Tryd.ntmps29
    go_wp2_with fail
    refine (C1.out _).mono ?_
    rintro e w1 ⟨rfl, rfl⟩
    go_wp2_with fail
    refine (C2.out _).mono ?_
    rintro e w1 ⟨rfl, rfl⟩
    go_wp2_with fail
    go_ret
    exact ⟨rfl, rfl⟩
  rw [if_neg (by omega)]
  have b1 : (((c : Nat) : Int) == 34) = false := by rw [beq_eq_false_iff_ne]; omega
  have b2 : (((c : Nat) : Int) == 92) = false := by rw [beq_eq_false_iff_ne]; omega
  clear q1 q2
  generalize UInt8.ofNat c = x at *
  go_enter Tryd.func29, Tryd.ntmps29
  go_wp2_with fail
  refine (C1.out _).mono ?_
  rintro e w1 ⟨rfl, rfl⟩
  go_wp2_with fail
  refine (C2.out _).mono ?_
  rintro e w1 ⟨rfl, rfl⟩
  go_wp2_with fail
  go_ret
  exact ⟨rfl, rfl⟩
theorem written_any (c : Nat) (hc : c ≤ 1114111) (w : World) (hp : Pow w) :
    Calls Tryd.prog 29 #[.int .i64 (c : Int)] w fun e w' => e = .returned (.string ⟨(wr1 c).toArray⟩) ∧ Below w.heap.size w w' := by
  cases h : isLet c with
  | true =>
    refine (written_let c h w).mono ?_
    rintro e w' ⟨rfl, rfl⟩
    exact ⟨rfl, Below.refl _ _⟩
  | false =>
    cases h2 : isNum c with
    | true => exact written_num c h h2 hc w hp
    | false =>
      have hc2 : c < 127 := by
        unfold isNum at h2
        simp at h2
        omega
      refine (written_own c h h2 hc2 w).mono ?_
      rintro e w' ⟨rfl, rfl⟩
      exact ⟨rfl, Below.refl _ _⟩

/-- A slice of numbers that is only read. -/
def ArgI (w : World) (v : Value) (zs : List Int) : Prop :=
  (∃ ao cap, v = .slice ao 0 cap ∧ zs = []) ∨ ∃ (b off cap : Nat), v = .slice (some ⟨b, off, none⟩) zs.length cap ∧ b < w.heap.size ∧ ∀ (i : Nat) (z : Int), zs[i]? = some z → w.cell? ⟨b, off + i, none⟩ = some (.int .i64 z)
theorem ArgI.below {w w' : World} {v : Value} {zs : List Int} (h : ArgI w v zs) (hb : Below w.heap.size w w') : ArgI w' v zs := by
  rcases h with h | ⟨b, off, cap, h1, h2, h3⟩
  · exact .inl h
  · exact .inr ⟨b, off, cap, h1, Nat.lt_of_lt_of_le h2 hb.size, fun i z hz => (hb.cell (p := ⟨b, off + i, none⟩) h2).trans (h3 i z hz)⟩
def okZ (z : Int) : Bool := decide (0 ≤ z) && decide (z ≤ 1114111)
/-- Write's answer. -/
def writeI (zs : List Int) : List UInt8 × Int := if zs.all okZ = true then (34 :: (wrL false (zs.map Int.toNat) ++ [34]), 0) else ([], 1)
theorem ok_z (z : Int) (h : okZ z = true) : 0 ≤ z ∧ z ≤ 1114111 := by
  unfold okZ at h
  rw [Bool.and_eq_true, decide_eq_true_eq, decide_eq_true_eq] at h
  exact h
theorem not_ok_z (z : Int) (h : okZ z = false) : z < 0 ∨ 1114111 < z := by
  unfold okZ at h
  rw [Bool.and_eq_false_iff, decide_eq_false_iff_not, decide_eq_false_iff_not] at h
  omega
/-- One more character written. -/
def wrP (b : Bool) (c : Nat) : List UInt8 := (if b = true ∧ isDig c = true then [92, 38] else []) ++ wr1 c
theorem wrL_cons (b : Bool) (c : Nat) (l : List Nat) : wrL b (c :: l) = wrP b c ++ wrL (isNum c) l := by
  rw [wrL, wrP, List.append_assoc]
theorem wrP_len (b : Bool) (c : Nat) (hc : c ≤ 1114111) : (wrP b c).length ≤ 8 := by
  obtain ⟨a, d⟩ := wr1_len c hc
  unfold wrP
  rw [List.length_append]
  split
  · rename_i q
    have := d q.2
    simp
    omega
  · simp
    omega
set_option maxHeartbeats 2000000 in
theorem Write_row (zs : List Int) (n : Nat) (hn : zs.length = n) (hl : n * 8 ≤ 140737488351232) (b off cap : Nat) (w : World) (hp : Pow w) (hb : b < w.heap.size)
    (hc : Hid (∀ (i : Nat) (z : Int), zs[i]? = some z → w.cell? ⟨b, off + i, none⟩ = some (.int .i64 z))) :
    Calls Tryd.prog 16 #[.slice (some ⟨b, off, none⟩) n cap] w fun e w' => e = .returned (.tuple #[.string ⟨(writeI zs).1.toArray⟩, .int .i64 (writeI zs).2]) ∧ Below w.heap.size w w' := by
  obtain ⟨T, hT⟩ : ∃ T, 34 :: wrL false (zs.map Int.toNat) = T := ⟨_, rfl⟩
  obtain ⟨R1, R2, hR⟩ : ∃ R1 R2, writeI zs = (R1, R2) := ⟨_, _, rfl⟩
  rw [hR]
  have HR : Hid ((zs.all okZ = true → R1 = T ++ [34] ∧ R2 = 0) ∧ (zs.all okZ = false → R1 = [] ∧ R2 = 1)) := by
    unfold writeI at hR
    refine ⟨fun h => ?_, fun h => ?_⟩
    · rw [if_pos h] at hR
      injection hR with h1 h2
      exact ⟨by rw [← h1, ← hT]; rfl, h2.symm⟩
    · rw [if_neg (by rw [h]; decide)] at hR
      injection hR with h1 h2
      exact ⟨h1.symm, h2.symm⟩
  have HT := Lib.hid hT
  have HN := Lib.hid hn
  have HP := Lib.hid hp
  have hB0 : Hid (Bld w.heap.size w.heap.size [] (w.alloc (.cells #[.pointer none, .slice none 0 0] 46))) := Lib.IsBuilderF.of (Lib.fresh_isBuilder 46 5 w)
  have hW0 : Hid (Below w.heap.size w (w.alloc (.cells #[.pointer none, .slice none 0 0] 46))) := (Below.refl _ _).alloc (Nat.le_refl _) _
  have C0 : Hid (Calls Tryd.prog 26 #[.pointer (some ⟨w.heap.size, 0, none⟩), .int .u8 34] (w.alloc (.cells #[.pointer none, .slice none 0 0] 46)) _) := wbyte_any w.heap.size w.heap.size [] 34 _ hB0.out (by simp) hW0.out.size
  clear hR hT hn hp
  go_enter Tryd.func16, Tryd.ntmps16
  go_wp2_with fail
  refine C0.out.mono ?_
  rintro e w1 ⟨rfl, b1, lo1⟩
  have B1 := Lib.hid b1
  have LO1 := Lib.hid (hW0.out.trans lo1)
  clear b1 lo1
  go_wp2_with fail
  go_loopw [5, 11] (fun bv iv wr => ∃ (k : Nat) (bb : Bool) (bs : List UInt8), bv = .bool bb ∧ iv = .int .i64 (k : Int) ∧ k ≤ n ∧ (zs.take k).all okZ = true ∧ bs ++ wrL bb ((zs.drop k).map Int.toNat) = T ∧ bs.length ≤ 1 + 8 * k ∧ Bld w.heap.size w.heap.size bs wr ∧ Below w.heap.size w wr) (fun _ iv _ => n - (intOf iv).toNat)
  case atStart => exact ⟨0, false, [34], rfl, rfl, Nat.zero_le _, rfl, HT.out, by simp, B1.out, LO1.out⟩
  case round =>
    obtain ⟨k, bb, bs, rfl, rfl, hk, hok, heq, hlen, hbd, hbw⟩ := hrel
    have HOK := Lib.hid hok
    have HEQ := Lib.hid heq
    have BD := Lib.hid hbd
    have BW := Lib.hid hbw
    clear hok heq hbd hbw
    by_cases hkn : k < n
    · obtain ⟨z, hz⟩ : ∃ z, zs[k]? = some z := ⟨_, List.getElem?_eq_getElem (by rw [HN.out]; exact hkn)⟩
      have hce := (BW.out.cell (p := ⟨b, off + k, none⟩) hb).trans (hc.out k z hz)
      have hdr : zs.drop k = z :: zs.drop (k + 1) := by
        rw [List.getElem?_eq_some_iff] at hz
        obtain ⟨h1, h2⟩ := hz
        rw [List.drop_eq_getElem_cons h1, h2]
      have htk : zs.take (k + 1) = zs.take k ++ [z] := by
        rw [List.take_add_one, hz]
        rfl
      have HMEM : Hid (z ∈ zs) := List.mem_of_getElem? hz
      have HTK := Lib.hid htk
      have HDR := Lib.hid hdr
      clear hz hdr htk
      cases hzok : okZ z with
      | false =>
        have hr := HR.out.2 (by
          rw [Bool.eq_false_iff]
          intro h
          have := List.all_eq_true.1 h z HMEM.out
          rw [hzok] at this
          cases this)
        obtain ⟨rfl, rfl⟩ := hr
        have hz2 := not_ok_z z hzok
        by_cases hneg : z < 0
        · have x0 : decide (z < 0) = true := decide_eq_true hneg
          clear hzok hz2
          go_wp2_with fail
          go_ret2
          exact ⟨rfl, BW.out⟩
        · have x0 : decide (z < 0) = false := decide_eq_false hneg
          have x1 : decide ((1114111 : Int) < z) = true := decide_eq_true (by omega)
          clear hzok hz2
          go_wp2_with fail
          go_ret2
          exact ⟨rfl, BW.out⟩
      | true =>
        obtain ⟨z0, z1⟩ := ok_z z hzok
        obtain ⟨c, rfl⟩ := Int.eq_ofNat_of_zero_le z0
        have hcl : c ≤ 1114111 := by omega
        have x0 : decide ((c : Int) < 0) = false := decide_eq_false (by omega)
        have x1 : decide ((1114111 : Int) < (c : Int)) = false := decide_eq_false (by omega)
        have heq := HEQ.out
        rw [HDR.out, List.map_cons, Int.toNat_natCast, wrL_cons, ← List.append_assoc] at heq
        have HEQ2 := Lib.hid heq
        have HOK2 : Hid ((zs.take (k + 1)).all okZ = true) := by
          unfold Hid
          rw [HTK.out, List.all_append, HOK.out, List.all_cons, hzok]
          rfl
        have hpl := wrP_len bb c hcl
        have C1 : Hid (∀ W, Pow W → _) := fun W h => written_any c hcl W h
        have C2 : Hid (∀ W, _) := fun W => num_is c W
        have HSZ : Hid ((⟨(wr1 c).toArray⟩ : ByteArray).size = (wr1 c).length ∧ (⟨(wr1 c).toArray⟩ : ByteArray).data.toList = wr1 c) := ⟨by rw [Lib.size_eq], rfl⟩
        have c3 := fun W => dig_is c W
        have hwp : wrP bb c = (if bb = true ∧ isDig c = true then [92, 38] else []) ++ wr1 c := rfl
        clear heq hzok z0 z1
        generalize (⟨(wr1 c).toArray⟩ : ByteArray) = mb at *
        cases hbb : (bb && isDig c) with
        | true =>
          rw [Bool.and_eq_true] at hbb
          obtain ⟨rfl, hdg⟩ := hbb
          rw [if_pos ⟨rfl, hdg⟩] at hwp
          rw [hdg] at c3
          have C3 := Lib.hid c3
          have hwl : 2 + (wr1 c).length = (wrP true c).length := by rw [hwp]; simp; omega
          have HWP := Lib.hid hwp
          have C4 : Hid (Calls Tryd.prog 28 #[.pointer (some ⟨w.heap.size, 0, none⟩), .string ⟨#[92, 38]⟩] wr _) := wstr_any w.heap.size w.heap.size bs ⟨#[92, 38]⟩ wr BD.out (by show bs.length + 2 ≤ _; omega) BW.out.size
          clear c3 hwp hdg
          go_wp2_with fail
          refine (C3.out _).mono ?_
          rintro e w1 ⟨rfl, rfl⟩
          go_wp2_with fail
          refine C4.out.mono ?_
          rintro e w2 ⟨rfl, b2, lo2⟩
          have B2 := Lib.hid b2
          have LO2 := Lib.hid (BW.out.trans lo2)
          clear b2 lo2
          go_wp2_with fail
          refine (C1.out _ (HP.out.below LO2.out (Nat.le_refl _))).mono ?_
          rintro e w3 ⟨rfl, lo3⟩
          have B3 := Lib.hid (builder_below B2.out lo3 : Bld _ _ _ _)
          have LO3 := Lib.hid (LO2.out.trans (lo3.mono LO2.out.size))
          clear lo3
          go_wp2_with fail
          refine (wstr_any w.heap.size w.heap.size _ mb _ B3.out (by have := HSZ.out.1; rw [List.length_append, this]; show bs.length + 2 + _ ≤ _; omega) LO3.out.size).mono ?_
          rintro e w4 ⟨rfl, b4, lo4⟩
          have B4 := Lib.hid b4
          have LO4 := Lib.hid (LO3.out.trans lo4)
          clear b4 lo4
          go_wp2_with fail
          refine (C2.out _).mono ?_
          rintro e w5 ⟨rfl, rfl⟩
          go_wp2_with fail
          go_roundw
          case rel =>
            have b4 := B4.out
            have hz := HSZ.out.2
            rw [hz, List.append_assoc] at b4
            refine ⟨k + 1, isNum c, bs ++ wrP true c, rfl, by go_num, by omega, HOK2.out, HEQ2.out, by rw [List.length_append]; omega, ?_, LO4.out⟩
            rw [HWP.out]
            exact b4
          case measure => simp [intOf]; omega
        | false =>
          have hq : ¬ (bb = true ∧ isDig c = true) := fun q => by rw [q.1, q.2] at hbb; cases hbb
          rw [if_neg hq, List.nil_append] at hwp
          have hwl : (wr1 c).length = (wrP bb c).length := by rw [hwp]
          have HWP := Lib.hid hwp
          clear hwp hq
          cases bb with
          | false =>
            clear c3 hbb
            go_wp2_with fail
            refine (C1.out _ (HP.out.below BW.out (Nat.le_refl _))).mono ?_
            rintro e w3 ⟨rfl, lo3⟩
            have B3 := Lib.hid (builder_below BD.out lo3 : Bld _ _ _ _)
            have LO3 := Lib.hid (BW.out.trans (lo3.mono BW.out.size))
            clear lo3
            go_wp2_with fail
            refine (wstr_any w.heap.size w.heap.size _ mb _ B3.out (by have := HSZ.out.1; rw [this]; omega) LO3.out.size).mono ?_
            rintro e w4 ⟨rfl, b4, lo4⟩
            have B4 := Lib.hid b4
            have LO4 := Lib.hid (LO3.out.trans lo4)
            clear b4 lo4
            go_wp2_with fail
            refine (C2.out _).mono ?_
            rintro e w5 ⟨rfl, rfl⟩
            go_wp2_with fail
            go_roundw
            case rel =>
              have b4 := B4.out
              have hz := HSZ.out.2
              rw [hz] at b4
              refine ⟨k + 1, isNum c, bs ++ wrP false c, rfl, by go_num, by omega, HOK2.out, HEQ2.out, by rw [List.length_append]; omega, ?_, LO4.out⟩
              rw [HWP.out]
              exact b4
            case measure => simp [intOf]; omega
          | true =>
            have hdg : isDig c = false := by simpa using hbb
            rw [hdg] at c3
            have C3 := Lib.hid c3
            clear c3 hbb hdg
            go_wp2_with fail
            refine (C3.out _).mono ?_
            rintro e w1 ⟨rfl, rfl⟩
            go_wp2_with fail
            refine (C1.out _ (HP.out.below BW.out (Nat.le_refl _))).mono ?_
            rintro e w3 ⟨rfl, lo3⟩
            have B3 := Lib.hid (builder_below BD.out lo3 : Bld _ _ _ _)
            have LO3 := Lib.hid (BW.out.trans (lo3.mono BW.out.size))
            clear lo3
            go_wp2_with fail
            refine (wstr_any w.heap.size w.heap.size _ mb _ B3.out (by have := HSZ.out.1; rw [this]; omega) LO3.out.size).mono ?_
            rintro e w4 ⟨rfl, b4, lo4⟩
            have B4 := Lib.hid b4
            have LO4 := Lib.hid (LO3.out.trans lo4)
            clear b4 lo4
            go_wp2_with fail
            refine (C2.out _).mono ?_
            rintro e w5 ⟨rfl, rfl⟩
            go_wp2_with fail
            go_roundw
            case rel =>
              have b4 := B4.out
              have hz := HSZ.out.2
              rw [hz] at b4
              refine ⟨k + 1, isNum c, bs ++ wrP true c, rfl, by go_num, by omega, HOK2.out, HEQ2.out, by rw [List.length_append]; omega, ?_, LO4.out⟩
              rw [HWP.out]
              exact b4
            case measure => simp [intOf]; omega
    · obtain rfl : k = n := by omega
      have hok := HOK.out
      rw [List.take_of_length_le (by rw [HN.out]; exact Nat.le_refl _)] at hok
      obtain ⟨h1, rfl⟩ := HR.out.1 hok
      have heq := HEQ.out
      rw [List.drop_eq_nil_of_le (by rw [HN.out]; exact Nat.le_refl _), List.map_nil, wrL, List.append_nil] at heq
      rw [heq] at hlen
      have bd := BD.out
      rw [heq] at bd
      have BD2 := Lib.hid bd
      have H1 := Lib.hid h1
      have C5 : Hid (Calls Tryd.prog 26 #[.pointer (some ⟨w.heap.size, 0, none⟩), .int .u8 34] wr _) := wbyte_any w.heap.size w.heap.size T 34 wr bd (by omega) BW.out.size
      clear heq bd h1 hok
      go_wp2_with fail
      refine C5.out.mono ?_
      rintro e w2 ⟨rfl, b2, lo2⟩
      rw [← H1.out] at b2
      have LO2 := Lib.hid (BW.out.trans lo2)
      have C6 := Lib.hid (bstr_any _ _ _ w2 b2 LO2.out.size)
      clear b2 lo2
      go_wp2_with fail
      refine C6.out.mono ?_
      rintro e w3 ⟨rfl, lo3⟩
      have LO3 := Lib.hid (LO2.out.trans lo3)
      clear lo3
      go_wp2_with fail
      go_ret2
      exact ⟨rfl, LO3.out⟩
theorem Write_empty (ao : Option Addr) (cap : Nat) (w : World) :
    Calls Tryd.prog 16 #[.slice ao 0 cap] w fun e w' => e = .returned (.tuple #[.string ⟨#[34, 34]⟩, .int .i64 0]) ∧ Below w.heap.size w w' := by
  have hB0 : Hid (Bld w.heap.size w.heap.size [] (w.alloc (.cells #[.pointer none, .slice none 0 0] 46))) := Lib.IsBuilderF.of (Lib.fresh_isBuilder 46 5 w)
  have hW0 : Hid (Below w.heap.size w (w.alloc (.cells #[.pointer none, .slice none 0 0] 46))) := (Below.refl _ _).alloc (Nat.le_refl _) _
  have C0 : Hid (Calls Tryd.prog 26 #[.pointer (some ⟨w.heap.size, 0, none⟩), .int .u8 34] (w.alloc (.cells #[.pointer none, .slice none 0 0] 46)) _) := wbyte_any w.heap.size w.heap.size [] 34 _ hB0.out (by simp) hW0.out.size
  go_enter Tryd.func16, Tryd.ntmps16
  go_wp2_with fail
  refine C0.out.mono ?_
  rintro e w1 ⟨rfl, b1, lo1⟩
  have B1 := Lib.hid b1
  have LO1 := Lib.hid (hW0.out.trans lo1)
  have C5 : Hid (Calls Tryd.prog 26 #[.pointer (some ⟨w.heap.size, 0, none⟩), .int .u8 34] w1 _) := wbyte_any w.heap.size w.heap.size [34] 34 w1 b1 (by simp) LO1.out.size
  clear b1 lo1
  go_wp2_with fail
  refine wp_loop_rounds 1 ?_
  rw [rounds_succ]
  go_wp2_with fail
  refine C5.out.mono ?_
  rintro e w2 ⟨rfl, b2, lo2⟩
  have LO2 := Lib.hid (LO1.out.trans lo2)
  have C6 : Hid (Calls Tryd.prog 31 #[.pointer (some ⟨w.heap.size, 0, none⟩)] w2 fun e w' => e = .returned (.string ⟨#[34, 34]⟩) ∧ Below w.heap.size w2 w') := bstr_any _ _ _ w2 b2 LO2.out.size
  clear b2 lo2
  go_wp2_with fail
  refine C6.out.mono ?_
  rintro e w3 ⟨rfl, lo3⟩
  have LO3 := Lib.hid (LO2.out.trans lo3)
  clear lo3
  go_wp2_with fail
  go_ret2
  exact ⟨rfl, LO3.out⟩
theorem Write_any (v : Value) (zs : List Int) (hl : zs.length * 8 ≤ 140737488351232) (w : World) (hp : Pow w) (hv : ArgI w v zs) :
    Calls Tryd.prog 16 #[v] w fun e w' => e = .returned (.tuple #[.string ⟨(writeI zs).1.toArray⟩, .int .i64 (writeI zs).2]) ∧ Below w.heap.size w w' := by
  rcases hv with ⟨ao, cap, rfl, rfl⟩ | ⟨b, off, cap, rfl, hb, hc⟩
  · exact Write_empty ao cap w
  · exact Write_row zs zs.length rfl hl b off cap w hp hb hc
end Go.Proofs.YtdppfhgihoibnaaDoor.Qt
