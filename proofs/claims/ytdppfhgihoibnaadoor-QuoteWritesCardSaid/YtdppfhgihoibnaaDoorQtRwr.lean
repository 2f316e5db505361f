/-
  The contract of the document's own Write, and the walk of QuoteWrites. Conditions: the numbers take at most 2^47 - 4096 bytes; the library's table of powers of ten and the program's list of names stand.
-/
import Derived.Test.YtdppfhgihoibnaaDoorQtRdd
import Derived.Test.YtdppfhgihoibnaaDoorQtLaw
namespace Go.Proofs.YtdppfhgihoibnaaDoor.Qt
open Go.RowKit Gly
open Go.Lib (decDigits)
set_option linter.unusedSimpArgs false
set_option linter.unusedVariables false

theorem cells_one (c : Nat) (h : c < 256) : Lib.byteCells [UInt8.ofNat c] = [.int .u8 (c : Int)] := by
  have : (UInt8.ofNat c).toNat = c := by rw [UInt8.toNat_ofNat']; exact Nat.mod_eq_of_lt h
  show [Value.int .u8 (((UInt8.ofNat c).toNat : Nat) : Int)] = _
  rw [this]
set_option maxHeartbeats 4000000 in
set_option maxRecDepth 20000 in
theorem refwrite_row (zs : List Int) (n : Nat) (hn : zs.length = n) (hl : n * 8 ≤ 140737488351232) (b off cap : Nat) (w : World) (hb : b < w.heap.size)
    (hc : Hid (∀ (i : Nat) (z : Int), zs[i]? = some z → w.cell? ⟨b, off + i, none⟩ = some (.int .i64 z))) :
    Calls Tryd.prog 17 #[.slice (some ⟨b, off, none⟩) n cap] w fun e w' => e = .returned (.tuple #[.string ⟨(writeI zs).1.toArray⟩, .int .i64 (writeI zs).2]) ∧ Below w.heap.size w w' := by
  obtain ⟨T, hT⟩ : ∃ T, 34 :: wrL false (zs.map Int.toNat) = T := ⟨_, rfl⟩
  obtain ⟨R1, R2, hR⟩ : ∃ R1 R2, writeI zs = (R1, R2) := ⟨_, _, rfl⟩
  rw [hR]
  have HR : Hid ((zs.all okZ = true → R1 = T ++ [34] ∧ R2 = 0) ∧ (zs.all okZ = false → R1 = [] ∧ R2 = 1)) := by
    unfold writeI at hR
    refine ⟨fun h => ?_, fun h => ?_⟩
    · rw [if_pos h] at hR
      injection hR with h1 h2
      exact ⟨by rw [← h1, ← hT]; rfl, h2.symm⟩
    · rw [if_neg (by rw [h]; decide)] at hR
      injection hR with h1 h2
      exact ⟨h1.symm, h2.symm⟩
  have HT := Lib.hid hT
  have HN := Lib.hid hn
  clear hR hT hn
  go_enter Tryd.func17, Tryd.ntmps17
  go_wp2_with (first | (at_builtin; refine append_bytes _ rfl _ _ rfl w.heap.size _ [] rfl (Bytes.nil _ _) w.heap.size [34] 1 rfl rfl ?a0 (by simp) ?b0 ?_))
  case a0 => exact heap_alloc_new _ _
  case b0 => simp
  intro v0 w0 hown0 hgrow0
  have OWN0 := Lib.hid hown0
  have BW0 : Hid (Below w.heap.size w w0) := Lib.hid (after_byte (Bytes.nil w w.heap.size) (Below.refl _ _) (Nat.le_refl _) hgrow0)
  clear hown0 hgrow0
  go_wp2_with fail
  go_loopw [4, 5, 6] (fun vv bv iv wr => ∃ (k : Nat) (bb : Bool) (bs : List UInt8), bv = .bool bb ∧ iv = .int .i64 (k : Int) ∧ k ≤ n ∧ (zs.take k).all okZ = true ∧ bs ++ wrL bb ((zs.drop k).map Int.toNat) = T ∧ bs.length ≤ 1 + 8 * k ∧ Bytes wr w.heap.size vv bs ∧ Below w.heap.size w wr) (fun _ _ iv _ => n - (intOf iv).toNat)
  case atStart => exact ⟨0, false, [34], rfl, rfl, Nat.zero_le _, rfl, HT.out, by simp, OWN0.out, BW0.out⟩
  case round =>
    obtain ⟨k, bb, bs, rfl, rfl, hk, hok, heq, hlen, hbd, hbw⟩ := hrel
    have HOK := Lib.hid hok
    have HEQ := Lib.hid heq
    have OWN := Lib.hid hbd
    have BW := Lib.hid hbw
    clear hok heq hbd hbw OWN0 BW0
    by_cases hkn : k < n
    · obtain ⟨z, hz⟩ : ∃ z, zs[k]? = some z := ⟨_, List.getElem?_eq_getElem (by rw [HN.out]; exact hkn)⟩
      have hce := (BW.out.cell (p := ⟨b, off + k, none⟩) hb).trans (hc.out k z hz)
      have hdr : zs.drop k = z :: zs.drop (k + 1) := by
        rw [List.getElem?_eq_some_iff] at hz
        obtain ⟨h1, h2⟩ := hz
        rw [List.drop_eq_getElem_cons h1, h2]
      have htk : zs.take (k + 1) = zs.take k ++ [z] := by
        rw [List.take_add_one, hz]
        rfl
      have HMEM : Hid (z ∈ zs) := List.mem_of_getElem? hz
      have HTK := Lib.hid htk
      have HDR := Lib.hid hdr
      clear hz hdr htk
      cases hzok : okZ z with
      | false =>
        have hr := HR.out.2 (by
          rw [Bool.eq_false_iff]
          intro h
          have := List.all_eq_true.1 h z HMEM.out
          rw [hzok] at this
          cases this)
        obtain ⟨rfl, rfl⟩ := hr
        have hz2 := not_ok_z z hzok
        by_cases hneg : z < 0
        · have x0 : decide (z < 0) = true := decide_eq_true hneg
          clear hzok hz2
          go_wp2_with fail
          go_ret2
          exact ⟨rfl, BW.out⟩
        · have x0 : decide (z < 0) = false := decide_eq_false hneg
          have x1 : decide ((1114111 : Int) < z) = true := decide_eq_true (by omega)
          clear hzok hz2
          go_wp2_with fail
          go_ret2
          exact ⟨rfl, BW.out⟩
      | true =>
        obtain ⟨z0, z1⟩ := ok_z z hzok
        obtain ⟨c, rfl⟩ := Int.eq_ofNat_of_zero_le z0
        have hcl : c ≤ 1114111 := by omega
        have x0 : decide ((c : Int) < 0) = false := decide_eq_false (by omega)
        have x1 : decide ((1114111 : Int) < (c : Int)) = false := decide_eq_false (by omega)
        have heq := HEQ.out
        rw [HDR.out, List.map_cons, Int.toNat_natCast, wrL_cons, ← List.append_assoc] at heq
        have HEQ2 := Lib.hid heq
        have HOK2 : Hid ((zs.take (k + 1)).all okZ = true) := by
          unfold Hid
          rw [HTK.out, List.all_append, HOK.out, List.all_cons, hzok]
          rfl
        have hpl := wrP_len bb c hcl
        have hwp : wrP bb c = (if bb = true ∧ isDig c = true then [92, 38] else []) ++ wr1 c := rfl
        clear heq hzok z0 z1
        by_cases hlt : isLet c = true
        · have hdg : isDig c = false := by
            unfold isDig isLet at *
            rw [Bool.and_eq_true, decide_eq_true_eq, decide_eq_true_eq] at hlt
            rw [decide_eq_false (show ¬ 48 ≤ c by omega)]
            rfl
          rw [if_neg (by rw [hdg]; simp), List.nil_append] at hwp
          unfold isLet at hlt
          rw [Bool.and_eq_true, decide_eq_true_eq, decide_eq_true_eq] at hlt
          have h7 : c = 7 ∨ c = 8 ∨ c = 9 ∨ c = 10 ∨ c = 11 ∨ c = 12 ∨ c = 13 := by omega
          clear hlt hdg
          have HY : Hid (Lib.byteCells [UInt8.ofNat 7] = [.int .u8 7]) := cells_one 7 (by decide)
          rcases h7 with rfl | rfl | rfl | rfl | rfl | rfl | rfl
          · have HWP : Hid (wrP bb 7 = [92, 97]) := by unfold Hid; rw [hwp]; rfl
            have HNUM : Hid (isNum 7 = false) := by unfold Hid; decide
            clear hwp
            go_wp2_with (first | (at_builtin; refine append_bytes _ rfl _ _ rfl w.heap.size _ (bs) rfl (OWN.out.below ((Below.refl _ _).alloc (Nat.le_refl _) _)) wr.heap.size [92] 1 rfl rfl ?a3 (by omega) ?b3 ?_))
            case a3 => first | exact heap_alloc_new _ _ | (rw [HY.out]; exact heap_alloc_new _ _) | (simp [World.alloc, Lib.byteCells]; done) | (simp [World.alloc, HY.out]; done)
            case b3 => have := BW.out.size; simp; omega
            intro v3 w3 hown3 hgrow3
            have OWN3 := Lib.hid hown3
            have BW3 := Lib.hid (after_byte OWN.out BW.out BW.out.size hgrow3)
            clear hown3 hgrow3
            go_wp2_with (first | (at_builtin; refine append_bytes _ rfl _ _ rfl w.heap.size _ (bs ++ [92]) rfl (OWN3.out.below ((Below.refl _ _).alloc (Nat.le_refl _) _)) w3.heap.size [97] 1 rfl rfl ?a4 (by rw [List.length_append]; simp; omega) ?b4 ?_))
            case a4 => first | exact heap_alloc_new _ _ | (rw [HY.out]; exact heap_alloc_new _ _) | (simp [World.alloc, Lib.byteCells]; done) | (simp [World.alloc, HY.out]; done)
            case b4 => have := BW3.out.size; simp; omega
            intro v4 w4 hown4 hgrow4
            have OWN4 := Lib.hid hown4
            have BW4 := Lib.hid (after_byte OWN3.out BW3.out BW3.out.size hgrow4)
            clear hown4 hgrow4
            go_wp2_with fail
            go_roundw
            case rel =>
              refine ⟨k + 1, false, bs ++ wrP bb 7, rfl, by go_num, by omega, HOK2.out, ?_, by rw [List.length_append]; omega, ?_, BW4.out⟩
              · have := HEQ2.out
                rw [HNUM.out] at this
                exact this
              · rw [HWP.out]
                have := OWN4.out
                try simp only [List.append_assoc, List.cons_append, List.nil_append] at this
                try simp only [List.append_assoc, List.cons_append, List.nil_append]
                exact this
            case measure => simp [intOf]; omega
          · have HWP : Hid (wrP bb 8 = [92, 98]) := by unfold Hid; rw [hwp]; rfl
            have HNUM : Hid (isNum 8 = false) := by unfold Hid; decide
            clear hwp
            go_wp2_with (first | (at_builtin; refine append_bytes _ rfl _ _ rfl w.heap.size _ (bs) rfl (OWN.out.below ((Below.refl _ _).alloc (Nat.le_refl _) _)) wr.heap.size [92] 1 rfl rfl ?a3 (by omega) ?b3 ?_))
            case a3 => first | exact heap_alloc_new _ _ | (rw [HY.out]; exact heap_alloc_new _ _) | (simp [World.alloc, Lib.byteCells]; done) | (simp [World.alloc, HY.out]; done)
            case b3 => have := BW.out.size; simp; omega
            intro v3 w3 hown3 hgrow3
            have OWN3 := Lib.hid hown3
            have BW3 := Lib.hid (after_byte OWN.out BW.out BW.out.size hgrow3)
            clear hown3 hgrow3
            go_wp2_with (first | (at_builtin; refine append_bytes _ rfl _ _ rfl w.heap.size _ (bs ++ [92]) rfl (OWN3.out.below ((Below.refl _ _).alloc (Nat.le_refl _) _)) w3.heap.size [98] 1 rfl rfl ?a4 (by rw [List.length_append]; simp; omega) ?b4 ?_))
            case a4 => first | exact heap_alloc_new _ _ | (rw [HY.out]; exact heap_alloc_new _ _) | (simp [World.alloc, Lib.byteCells]; done) | (simp [World.alloc, HY.out]; done)
            case b4 => have := BW3.out.size; simp; omega
            intro v4 w4 hown4 hgrow4
            have OWN4 := Lib.hid hown4
            have BW4 := Lib.hid (after_byte OWN3.out BW3.out BW3.out.size hgrow4)
            clear hown4 hgrow4
            go_wp2_with fail
            go_roundw
            case rel =>
              refine ⟨k + 1, false, bs ++ wrP bb 8, rfl, by go_num, by omega, HOK2.out, ?_, by rw [List.length_append]; omega, ?_, BW4.out⟩
              · have := HEQ2.out
                rw [HNUM.out] at this
                exact this
              · rw [HWP.out]
                have := OWN4.out
                try simp only [List.append_assoc, List.cons_append, List.nil_append] at this
                try simp only [List.append_assoc, List.cons_append, List.nil_append]
                exact this
            case measure => simp [intOf]; omega
          · have HWP : Hid (wrP bb 9 = [92, 116]) := by unfold Hid; rw [hwp]; rfl
            have HNUM : Hid (isNum 9 = false) := by unfold Hid; decide
            clear hwp
            go_wp2_with (first | (at_builtin; refine append_bytes _ rfl _ _ rfl w.heap.size _ (bs) rfl (OWN.out.below ((Below.refl _ _).alloc (Nat.le_refl _) _)) wr.heap.size [92] 1 rfl rfl ?a3 (by omega) ?b3 ?_))
            case a3 => first | exact heap_alloc_new _ _ | (rw [HY.out]; exact heap_alloc_new _ _) | (simp [World.alloc, Lib.byteCells]; done) | (simp [World.alloc, HY.out]; done)
            case b3 => have := BW.out.size; simp; omega
            intro v3 w3 hown3 hgrow3
            have OWN3 := Lib.hid hown3
            have BW3 := Lib.hid (after_byte OWN.out BW.out BW.out.size hgrow3)
            clear hown3 hgrow3
            go_wp2_with (first | (at_builtin; refine append_bytes _ rfl _ _ rfl w.heap.size _ (bs ++ [92]) rfl (OWN3.out.below ((Below.refl _ _).alloc (Nat.le_refl _) _)) w3.heap.size [116] 1 rfl rfl ?a4 (by rw [List.length_append]; simp; omega) ?b4 ?_))
            case a4 => first | exact heap_alloc_new _ _ | (rw [HY.out]; exact heap_alloc_new _ _) | (simp [World.alloc, Lib.byteCells]; done) | (simp [World.alloc, HY.out]; done)
            case b4 => have := BW3.out.size; simp; omega
            intro v4 w4 hown4 hgrow4
            have OWN4 := Lib.hid hown4
            have BW4 := Lib.hid (after_byte OWN3.out BW3.out BW3.out.size hgrow4)
            clear hown4 hgrow4
            go_wp2_with fail
            go_roundw
            case rel =>
              refine ⟨k + 1, false, bs ++ wrP bb 9, rfl, by go_num, by omega, HOK2.out, ?_, by rw [List.length_append]; omega, ?_, BW4.out⟩
              · have := HEQ2.out
                rw [HNUM.out] at this
                exact this
              · rw [HWP.out]
                have := OWN4.out
                try simp only [List.append_assoc, List.cons_append, List.nil_append] at this
                try simp only [List.append_assoc, List.cons_append, List.nil_append]
                exact this
            case measure => simp [intOf]; omega
          · have HWP : Hid (wrP bb 10 = [92, 110]) := by unfold Hid; rw [hwp]; rfl
            have HNUM : Hid (isNum 10 = false) := by unfold Hid; decide
            clear hwp
            go_wp2_with (first | (at_builtin; refine append_bytes _ rfl _ _ rfl w.heap.size _ (bs) rfl (OWN.out.below ((Below.refl _ _).alloc (Nat.le_refl _) _)) wr.heap.size [92] 1 rfl rfl ?a3 (by omega) ?b3 ?_))
            case a3 => first | exact heap_alloc_new _ _ | (rw [HY.out]; exact heap_alloc_new _ _) | (simp [World.alloc, Lib.byteCells]; done) | (simp [World.alloc, HY.out]; done)
            case b3 => have := BW.out.size; simp; omega
            intro v3 w3 hown3 hgrow3
            have OWN3 := Lib.hid hown3
            have BW3 := Lib.hid (after_byte OWN.out BW.out BW.out.size hgrow3)
            clear hown3 hgrow3
            go_wp2_with (first | (at_builtin; refine append_bytes _ rfl _ _ rfl w.heap.size _ (bs ++ [92]) rfl (OWN3.out.below ((Below.refl _ _).alloc (Nat.le_refl _) _)) w3.heap.size [110] 1 rfl rfl ?a4 (by rw [List.length_append]; simp; omega) ?b4 ?_))
            case a4 => first | exact heap_alloc_new _ _ | (rw [HY.out]; exact heap_alloc_new _ _) | (simp [World.alloc, Lib.byteCells]; done) | (simp [World.alloc, HY.out]; done)
            case b4 => have := BW3.out.size; simp; omega
            intro v4 w4 hown4 hgrow4
            have OWN4 := Lib.hid hown4
            have BW4 := Lib.hid (after_byte OWN3.out BW3.out BW3.out.size hgrow4)
            clear hown4 hgrow4
            go_wp2_with fail
            go_roundw
            case rel =>
              refine ⟨k + 1, false, bs ++ wrP bb 10, rfl, by go_num, by omega, HOK2.out, ?_, by rw [List.length_append]; omega, ?_, BW4.out⟩
              · have := HEQ2.out
                rw [HNUM.out] at this
                exact this
              · rw [HWP.out]
                have := OWN4.out
                try simp only [List.append_assoc, List.cons_append, List.nil_append] at this
                try simp only [List.append_assoc, List.cons_append, List.nil_append]
                exact this
            case measure => simp [intOf]; omega
          · have HWP : Hid (wrP bb 11 = [92, 118]) := by unfold Hid; rw [hwp]; rfl
            have HNUM : Hid (isNum 11 = false) := by unfold Hid; decide
            clear hwp
            go_wp2_with (first | (at_builtin; refine append_bytes _ rfl _ _ rfl w.heap.size _ (bs) rfl (OWN.out.below ((Below.refl _ _).alloc (Nat.le_refl _) _)) wr.heap.size [92] 1 rfl rfl ?a3 (by omega) ?b3 ?_))
            case a3 => first | exact heap_alloc_new _ _ | (rw [HY.out]; exact heap_alloc_new _ _) | (simp [World.alloc, Lib.byteCells]; done) | (simp [World.alloc, HY.out]; done)
            case b3 => have := BW.out.size; simp; omega
            intro v3 w3 hown3 hgrow3
            have OWN3 := Lib.hid hown3
            have BW3 := Lib.hid (after_byte OWN.out BW.out BW.out.size hgrow3)
            clear hown3 hgrow3
            go_wp2_with (first | (at_builtin; refine append_bytes _ rfl _ _ rfl w.heap.size _ (bs ++ [92]) rfl (OWN3.out.below ((Below.refl _ _).alloc (Nat.le_refl _) _)) w3.heap.size [118] 1 rfl rfl ?a4 (by rw [List.length_append]; simp; omega) ?b4 ?_))
            case a4 => first | exact heap_alloc_new _ _ | (rw [HY.out]; exact heap_alloc_new _ _) | (simp [World.alloc, Lib.byteCells]; done) | (simp [World.alloc, HY.out]; done)
            case b4 => have := BW3.out.size; simp; omega
            intro v4 w4 hown4 hgrow4
            have OWN4 := Lib.hid hown4
            have BW4 := Lib.hid (after_byte OWN3.out BW3.out BW3.out.size hgrow4)
            clear hown4 hgrow4
            go_wp2_with fail
            go_roundw
            case rel =>
              refine ⟨k + 1, false, bs ++ wrP bb 11, rfl, by go_num, by omega, HOK2.out, ?_, by rw [List.length_append]; omega, ?_, BW4.out⟩
              · have := HEQ2.out
                rw [HNUM.out] at this
                exact this
              · rw [HWP.out]
                have := OWN4.out
                try simp only [List.append_assoc, List.cons_append, List.nil_append] at this
                try simp only [List.append_assoc, List.cons_append, List.nil_append]
                exact this
            case measure => simp [intOf]; omega
          · have HWP : Hid (wrP bb 12 = [92, 102]) := by unfold Hid; rw [hwp]; rfl
            have HNUM : Hid (isNum 12 = false) := by unfold Hid; decide
            clear hwp
            go_wp2_with (first | (at_builtin; refine append_bytes _ rfl _ _ rfl w.heap.size _ (bs) rfl (OWN.out.below ((Below.refl _ _).alloc (Nat.le_refl _) _)) wr.heap.size [92] 1 rfl rfl ?a3 (by omega) ?b3 ?_))
            case a3 => first | exact heap_alloc_new _ _ | (rw [HY.out]; exact heap_alloc_new _ _) | (simp [World.alloc, Lib.byteCells]; done) | (simp [World.alloc, HY.out]; done)
            case b3 => have := BW.out.size; simp; omega
            intro v3 w3 hown3 hgrow3
            have OWN3 := Lib.hid hown3
            have BW3 := Lib.hid (after_byte OWN.out BW.out BW.out.size hgrow3)
            clear hown3 hgrow3
            go_wp2_with (first | (at_builtin; refine append_bytes _ rfl _ _ rfl w.heap.size _ (bs ++ [92]) rfl (OWN3.out.below ((Below.refl _ _).alloc (Nat.le_refl _) _)) w3.heap.size [102] 1 rfl rfl ?a4 (by rw [List.length_append]; simp; omega) ?b4 ?_))
            case a4 => first | exact heap_alloc_new _ _ | (rw [HY.out]; exact heap_alloc_new _ _) | (simp [World.alloc, Lib.byteCells]; done) | (simp [World.alloc, HY.out]; done)
            case b4 => have := BW3.out.size; simp; omega
            intro v4 w4 hown4 hgrow4
            have OWN4 := Lib.hid hown4
            have BW4 := Lib.hid (after_byte OWN3.out BW3.out BW3.out.size hgrow4)
            clear hown4 hgrow4
            go_wp2_with fail
            go_roundw
            case rel =>
              refine ⟨k + 1, false, bs ++ wrP bb 12, rfl, by go_num, by omega, HOK2.out, ?_, by rw [List.length_append]; omega, ?_, BW4.out⟩
              · have := HEQ2.out
                rw [HNUM.out] at this
                exact this
              · rw [HWP.out]
                have := OWN4.out
                try simp only [List.append_assoc, List.cons_append, List.nil_append] at this
                try simp only [List.append_assoc, List.cons_append, List.nil_append]
                exact this
            case measure => simp [intOf]; omega
          · have HWP : Hid (wrP bb 13 = [92, 114]) := by unfold Hid; rw [hwp]; rfl
            have HNUM : Hid (isNum 13 = false) := by unfold Hid; decide
            clear hwp
            go_wp2_with (first | (at_builtin; refine append_bytes _ rfl _ _ rfl w.heap.size _ (bs) rfl (OWN.out.below ((Below.refl _ _).alloc (Nat.le_refl _) _)) wr.heap.size [92] 1 rfl rfl ?a3 (by omega) ?b3 ?_))
            case a3 => first | exact heap_alloc_new _ _ | (rw [HY.out]; exact heap_alloc_new _ _) | (simp [World.alloc, Lib.byteCells]; done) | (simp [World.alloc, HY.out]; done)
            case b3 => have := BW.out.size; simp; omega
            intro v3 w3 hown3 hgrow3
            have OWN3 := Lib.hid hown3
            have BW3 := Lib.hid (after_byte OWN.out BW.out BW.out.size hgrow3)
            clear hown3 hgrow3
            go_wp2_with (first | (at_builtin; refine append_bytes _ rfl _ _ rfl w.heap.size _ (bs ++ [92]) rfl (OWN3.out.below ((Below.refl _ _).alloc (Nat.le_refl _) _)) w3.heap.size [114] 1 rfl rfl ?a4 (by rw [List.length_append]; simp; omega) ?b4 ?_))
            case a4 => first | exact heap_alloc_new _ _ | (rw [HY.out]; exact heap_alloc_new _ _) | (simp [World.alloc, Lib.byteCells]; done) | (simp [World.alloc, HY.out]; done)
            case b4 => have := BW3.out.size; simp; omega
            intro v4 w4 hown4 hgrow4
            have OWN4 := Lib.hid hown4
            have BW4 := Lib.hid (after_byte OWN3.out BW3.out BW3.out.size hgrow4)
            clear hown4 hgrow4
            go_wp2_with fail
            go_roundw
            case rel =>
              refine ⟨k + 1, false, bs ++ wrP bb 13, rfl, by go_num, by omega, HOK2.out, ?_, by rw [List.length_append]; omega, ?_, BW4.out⟩
              · have := HEQ2.out
                rw [HNUM.out] at this
                exact this
              · rw [HWP.out]
                have := OWN4.out
                try simp only [List.append_assoc, List.cons_append, List.nil_append] at this
                try simp only [List.append_assoc, List.cons_append, List.nil_append]
                exact this
            case measure => simp [intOf]; omega
        · by_cases hnm : isNum c = true
          · have hdg : isDig c = false := by
              unfold isNum at hnm
              unfold isDig
              rw [Bool.or_eq_true, Bool.and_eq_true, decide_eq_true_eq, decide_eq_true_eq] at hnm
              rw [Bool.and_eq_false_iff, decide_eq_false_iff_not, decide_eq_false_iff_not]
              omega
            rw [if_neg (by rw [hdg]; simp), List.nil_append] at hwp
            have hw1 : wr1 c = 92 :: decDigits c := by unfold wr1; rw [if_neg hlt, if_pos hnm]
            rw [hw1] at hwp
            have HWP := Lib.hid hwp
            have HNUM := Lib.hid hnm
            have hdl := dec_len c hcl
            have HTX : Hid ((⟨(decDigits c).toArray⟩ : ByteArray).data.toList = decDigits c) := rfl
            have hsz : (⟨(decDigits c).toArray⟩ : ByteArray).size = (decDigits c).length := by rw [Lib.size_eq]
            have D := Lib.hid (fun W => refdec_any c hcl W)
            have hds : (⟨(decDigits c).toArray⟩ : ByteArray).size ≤ 7 := by omega
            have HY : Hid (Lib.byteCells [UInt8.ofNat 7] = [.int .u8 7]) := cells_one 7 (by decide)
            have h3 : c < 7 ∨ (13 < c ∧ c < 32) ∨ 126 < c := by
              unfold isNum at hnm
              unfold isLet at hlt
              rw [Bool.and_eq_true, decide_eq_true_eq, decide_eq_true_eq] at hlt
              rw [Bool.or_eq_true, Bool.and_eq_true, decide_eq_true_eq, decide_eq_true_eq] at hnm
              omega
            generalize (⟨(decDigits c).toArray⟩ : ByteArray) = ds at *
            clear hwp hnm hdg hw1 hsz hlt hdl
            rcases h3 with h3 | ⟨h3, h4⟩ | h3
            · have x2 : decide ((7 : Int) ≤ (c : Int)) = false := decide_eq_false (by omega)
              have x4 : decide ((c : Int) < 32) = true := decide_eq_true (by omega)
              clear h3
              go_wp2_with (first | (at_builtin; refine append_bytes _ rfl _ _ rfl w.heap.size _ (bs) rfl (OWN.out.below ((Below.refl _ _).alloc (Nat.le_refl _) _)) wr.heap.size [92] 1 rfl rfl ?a3 (by omega) ?b3 ?_))
              case a3 => first | exact heap_alloc_new _ _ | (rw [HY.out]; exact heap_alloc_new _ _) | (simp [World.alloc, Lib.byteCells]; done) | (simp [World.alloc, HY.out]; done)
              case b3 => have := BW.out.size; simp; omega
              intro v3 w3 hown3 hgrow3
              have OWN3 := Lib.hid hown3
              have BW3 := Lib.hid (after_byte OWN.out BW.out BW.out.size hgrow3)
              clear hown3 hgrow3
              go_wp2_with fail
              refine (D.out _).mono ?_
              rintro e w4 ⟨rfl, hb4⟩
              have OWN4 := Lib.hid (OWN3.out.below hb4)
              have BW4 := Lib.hid (BW3.out.trans (hb4.mono BW3.out.size))
              clear hb4
              go_wp2_with (first | (at_builtin; refine append_text _ rfl _ _ rfl w.heap.size _ (bs ++ [92]) rfl OWN4.out ds rfl ?c5 BW4.out.size ?_))
              case c5 => rw [List.length_append]; simp; omega
              intro v5 w5 hown5 hgrow5
              rw [HTX.out] at hown5
              have OWN5 := Lib.hid hown5
              have BW5 := Lib.hid (after_bytes OWN4.out BW4.out BW4.out.size hgrow5)
              clear hown5 hgrow5
              go_wp2_with fail
              go_roundw
              case rel =>
                refine ⟨k + 1, true, bs ++ wrP bb c, rfl, by go_num, by omega, HOK2.out, ?_, by rw [List.length_append]; omega, ?_, BW5.out⟩
                · have := HEQ2.out
                  rw [HNUM.out] at this
                  exact this
                · rw [HWP.out]
                  have := OWN5.out
                  try simp only [List.append_assoc, List.cons_append, List.nil_append] at this
                  try simp only [List.append_assoc, List.cons_append, List.nil_append]
                  exact this
              case measure => simp [intOf]; omega
            · have x2 : decide ((7 : Int) ≤ (c : Int)) = true := decide_eq_true (by omega)
              have x3 : decide ((c : Int) ≤ 13) = false := decide_eq_false (by omega)
              have x4 : decide ((c : Int) < 32) = true := decide_eq_true (by omega)
              clear h3 h4
              go_wp2_with (first | (at_builtin; refine append_bytes _ rfl _ _ rfl w.heap.size _ (bs) rfl (OWN.out.below ((Below.refl _ _).alloc (Nat.le_refl _) _)) wr.heap.size [92] 1 rfl rfl ?a3 (by omega) ?b3 ?_))
              case a3 => first | exact heap_alloc_new _ _ | (rw [HY.out]; exact heap_alloc_new _ _) | (simp [World.alloc, Lib.byteCells]; done) | (simp [World.alloc, HY.out]; done)
              case b3 => have := BW.out.size; simp; omega
              intro v3 w3 hown3 hgrow3
              have OWN3 := Lib.hid hown3
              have BW3 := Lib.hid (after_byte OWN.out BW.out BW.out.size hgrow3)
              clear hown3 hgrow3
              go_wp2_with fail
              refine (D.out _).mono ?_
              rintro e w4 ⟨rfl, hb4⟩
              have OWN4 := Lib.hid (OWN3.out.below hb4)
              have BW4 := Lib.hid (BW3.out.trans (hb4.mono BW3.out.size))
              clear hb4
              go_wp2_with (first | (at_builtin; refine append_text _ rfl _ _ rfl w.heap.size _ (bs ++ [92]) rfl OWN4.out ds rfl ?c5 BW4.out.size ?_))
              case c5 => rw [List.length_append]; simp; omega
              intro v5 w5 hown5 hgrow5
              rw [HTX.out] at hown5
              have OWN5 := Lib.hid hown5
              have BW5 := Lib.hid (after_bytes OWN4.out BW4.out BW4.out.size hgrow5)
              clear hown5 hgrow5
              go_wp2_with fail
              go_roundw
              case rel =>
                refine ⟨k + 1, true, bs ++ wrP bb c, rfl, by go_num, by omega, HOK2.out, ?_, by rw [List.length_append]; omega, ?_, BW5.out⟩
                · have := HEQ2.out
                  rw [HNUM.out] at this
                  exact this
                · rw [HWP.out]
                  have := OWN5.out
                  try simp only [List.append_assoc, List.cons_append, List.nil_append] at this
                  try simp only [List.append_assoc, List.cons_append, List.nil_append]
                  exact this
              case measure => simp [intOf]; omega
            · have x2 : decide ((7 : Int) ≤ (c : Int)) = true := decide_eq_true (by omega)
              have x3 : decide ((c : Int) ≤ 13) = false := decide_eq_false (by omega)
              have x4 : decide ((c : Int) < 32) = false := decide_eq_false (by omega)
              have x5 : decide ((126 : Int) < (c : Int)) = true := decide_eq_true (by omega)
              clear h3
              go_wp2_with (first | (at_builtin; refine append_bytes _ rfl _ _ rfl w.heap.size _ (bs) rfl (OWN.out.below ((Below.refl _ _).alloc (Nat.le_refl _) _)) wr.heap.size [92] 1 rfl rfl ?a3 (by omega) ?b3 ?_))
              case a3 => first | exact heap_alloc_new _ _ | (rw [HY.out]; exact heap_alloc_new _ _) | (simp [World.alloc, Lib.byteCells]; done) | (simp [World.alloc, HY.out]; done)
              case b3 => have := BW.out.size; simp; omega
              intro v3 w3 hown3 hgrow3
              have OWN3 := Lib.hid hown3
              have BW3 := Lib.hid (after_byte OWN.out BW.out BW.out.size hgrow3)
              clear hown3 hgrow3
              go_wp2_with fail
              refine (D.out _).mono ?_
              rintro e w4 ⟨rfl, hb4⟩
              have OWN4 := Lib.hid (OWN3.out.below hb4)
              have BW4 := Lib.hid (BW3.out.trans (hb4.mono BW3.out.size))
              clear hb4
              go_wp2_with (first | (at_builtin; refine append_text _ rfl _ _ rfl w.heap.size _ (bs ++ [92]) rfl OWN4.out ds rfl ?c5 BW4.out.size ?_))
              case c5 => rw [List.length_append]; simp; omega
              intro v5 w5 hown5 hgrow5
              rw [HTX.out] at hown5
              have OWN5 := Lib.hid hown5
              have BW5 := Lib.hid (after_bytes OWN4.out BW4.out BW4.out.size hgrow5)
              clear hown5 hgrow5
              go_wp2_with fail
              go_roundw
              case rel =>
                refine ⟨k + 1, true, bs ++ wrP bb c, rfl, by go_num, by omega, HOK2.out, ?_, by rw [List.length_append]; omega, ?_, BW5.out⟩
                · have := HEQ2.out
                  rw [HNUM.out] at this
                  exact this
                · rw [HWP.out]
                  have := OWN5.out
                  try simp only [List.append_assoc, List.cons_append, List.nil_append] at this
                  try simp only [List.append_assoc, List.cons_append, List.nil_append]
                  exact this
              case measure => simp [intOf]; omega
          · have hnf : isNum c = false := Bool.eq_false_iff.2 hnm
            have hlf : isLet c = false := Bool.eq_false_iff.2 hlt
            have hrg : 32 ≤ c ∧ c ≤ 126 := by
              unfold isNum at hnf
              rw [hlf, Bool.or_eq_false_iff, Bool.and_eq_false_iff, decide_eq_false_iff_not, decide_eq_false_iff_not] at hnf
              simp at hnf
              omega
            have HNUM := Lib.hid hnf
            have HY := Lib.hid (cells_one c (by omega))
            have w8 : IntKind.u8.wrap (c : Int) = (c : Int) := by
              rw [IntKind.wrap_u8]
              omega
            have hw1 : wr1 c = if c = 34 ∨ c = 92 then [92, UInt8.ofNat c] else [UInt8.ofNat c] := by unfold wr1; rw [if_neg hlt, if_neg hnm]
            rw [hw1] at hwp
            have x2 : decide ((7 : Int) ≤ (c : Int)) = true := decide_eq_true (by omega)
            have x3 : decide ((c : Int) ≤ 13) = false := decide_eq_false (by omega)
            have x4 : decide ((c : Int) < 32) = false := decide_eq_false (by omega)
            have x5 : decide ((126 : Int) < (c : Int)) = false := decide_eq_false (by omega)
            have hdgi : isDig c = (decide (48 ≤ c) && decide (c ≤ 57)) := rfl
            have hc256 : c < 256 := by omega
            clear hnm hlt hnf hlf hw1
            generalize UInt8.ofNat c = y at *
            by_cases h34 : c = 34 ∨ c = 92
            · have hnd : isDig c = false := by
                rw [hdgi, Bool.and_eq_false_iff, decide_eq_false_iff_not, decide_eq_false_iff_not]
                omega
              rw [if_neg (by rw [hnd]; simp), if_pos h34, List.nil_append] at hwp
              have HWP := Lib.hid hwp
              clear hwp hnd hdgi
              cases bb
              · rcases h34 with h34 | h34
                · have x8 : ((c : Int) == 34) = true := by rw [beq_iff_eq]; omega
                  clear h34
                  go_wp2_with (first | (at_builtin; refine append_bytes _ rfl _ _ rfl w.heap.size _ (bs) rfl (OWN.out.below ((Below.refl _ _).alloc (Nat.le_refl _) _)) wr.heap.size [92] 1 rfl rfl ?a3 (by omega) ?b3 ?_))
                  case a3 => first | exact heap_alloc_new _ _ | (rw [HY.out]; exact heap_alloc_new _ _) | (simp [World.alloc, Lib.byteCells]; done) | (simp [World.alloc, HY.out]; done)
                  case b3 => have := BW.out.size; simp; omega
                  intro v3 w3 hown3 hgrow3
                  have OWN3 := Lib.hid hown3
                  have BW3 := Lib.hid (after_byte OWN.out BW.out BW.out.size hgrow3)
                  clear hown3 hgrow3
                  go_wp2_with (first | (at_builtin; refine append_bytes _ rfl _ _ rfl w.heap.size _ (bs ++ [92]) rfl (OWN3.out.below ((Below.refl _ _).alloc (Nat.le_refl _) _)) w3.heap.size [y] 1 rfl rfl ?a4 (by rw [List.length_append]; simp; omega) ?b4 ?_))
                  case a4 => first | exact heap_alloc_new _ _ | (rw [HY.out]; exact heap_alloc_new _ _) | (simp [World.alloc, Lib.byteCells]; done) | (simp [World.alloc, HY.out]; done)
                  case b4 => have := BW3.out.size; simp; omega
                  intro v4 w4 hown4 hgrow4
                  have OWN4 := Lib.hid hown4
                  have BW4 := Lib.hid (after_byte OWN3.out BW3.out BW3.out.size hgrow4)
                  clear hown4 hgrow4
                  go_wp2_with fail
                  go_roundw
                  case rel =>
                    refine ⟨k + 1, false, bs ++ wrP false c, rfl, by go_num, by omega, HOK2.out, ?_, by rw [List.length_append]; omega, ?_, BW4.out⟩
                    · have := HEQ2.out
                      rw [HNUM.out] at this
                      exact this
                    · rw [HWP.out]
                      have := OWN4.out
                      try simp only [List.append_assoc, List.cons_append, List.nil_append] at this
                      try simp only [List.append_assoc, List.cons_append, List.nil_append]
                      exact this
                  case measure => simp [intOf]; omega
                · have x8 : ((c : Int) == 34) = false := by rw [beq_eq_false_iff_ne]; omega
                  have x9 : ((c : Int) == 92) = true := by rw [beq_iff_eq]; omega
                  clear h34
                  go_wp2_with (first | (at_builtin; refine append_bytes _ rfl _ _ rfl w.heap.size _ (bs) rfl (OWN.out.below ((Below.refl _ _).alloc (Nat.le_refl _) _)) wr.heap.size [92] 1 rfl rfl ?a3 (by omega) ?b3 ?_))
                  case a3 => first | exact heap_alloc_new _ _ | (rw [HY.out]; exact heap_alloc_new _ _) | (simp [World.alloc, Lib.byteCells]; done) | (simp [World.alloc, HY.out]; done)
                  case b3 => have := BW.out.size; simp; omega
                  intro v3 w3 hown3 hgrow3
                  have OWN3 := Lib.hid hown3
                  have BW3 := Lib.hid (after_byte OWN.out BW.out BW.out.size hgrow3)
                  clear hown3 hgrow3
                  go_wp2_with (first | (at_builtin; refine append_bytes _ rfl _ _ rfl w.heap.size _ (bs ++ [92]) rfl (OWN3.out.below ((Below.refl _ _).alloc (Nat.le_refl _) _)) w3.heap.size [y] 1 rfl rfl ?a4 (by rw [List.length_append]; simp; omega) ?b4 ?_))
                  case a4 => first | exact heap_alloc_new _ _ | (rw [HY.out]; exact heap_alloc_new _ _) | (simp [World.alloc, Lib.byteCells]; done) | (simp [World.alloc, HY.out]; done)
                  case b4 => have := BW3.out.size; simp; omega
                  intro v4 w4 hown4 hgrow4
                  have OWN4 := Lib.hid hown4
                  have BW4 := Lib.hid (after_byte OWN3.out BW3.out BW3.out.size hgrow4)
                  clear hown4 hgrow4
                  go_wp2_with fail
                  go_roundw
                  case rel =>
                    refine ⟨k + 1, false, bs ++ wrP false c, rfl, by go_num, by omega, HOK2.out, ?_, by rw [List.length_append]; omega, ?_, BW4.out⟩
                    · have := HEQ2.out
                      rw [HNUM.out] at this
                      exact this
                    · rw [HWP.out]
                      have := OWN4.out
                      try simp only [List.append_assoc, List.cons_append, List.nil_append] at this
                      try simp only [List.append_assoc, List.cons_append, List.nil_append]
                      exact this
                  case measure => simp [intOf]; omega
              · rcases h34 with h34 | h34
                · have x6 : decide ((48 : Int) ≤ (c : Int)) = false := decide_eq_false (by omega)
                  have x8 : ((c : Int) == 34) = true := by rw [beq_iff_eq]; omega
                  clear h34
                  go_wp2_with (first | (at_builtin; refine append_bytes _ rfl _ _ rfl w.heap.size _ (bs) rfl (OWN.out.below ((Below.refl _ _).alloc (Nat.le_refl _) _)) wr.heap.size [92] 1 rfl rfl ?a3 (by omega) ?b3 ?_))
                  case a3 => first | exact heap_alloc_new _ _ | (rw [HY.out]; exact heap_alloc_new _ _) | (simp [World.alloc, Lib.byteCells]; done) | (simp [World.alloc, HY.out]; done)
                  case b3 => have := BW.out.size; simp; omega
                  intro v3 w3 hown3 hgrow3
                  have OWN3 := Lib.hid hown3
                  have BW3 := Lib.hid (after_byte OWN.out BW.out BW.out.size hgrow3)
                  clear hown3 hgrow3
                  go_wp2_with (first | (at_builtin; refine append_bytes _ rfl _ _ rfl w.heap.size _ (bs ++ [92]) rfl (OWN3.out.below ((Below.refl _ _).alloc (Nat.le_refl _) _)) w3.heap.size [y] 1 rfl rfl ?a4 (by rw [List.length_append]; simp; omega) ?b4 ?_))
                  case a4 => first | exact heap_alloc_new _ _ | (rw [HY.out]; exact heap_alloc_new _ _) | (simp [World.alloc, Lib.byteCells]; done) | (simp [World.alloc, HY.out]; done)
                  case b4 => have := BW3.out.size; simp; omega
                  intro v4 w4 hown4 hgrow4
                  have OWN4 := Lib.hid hown4
                  have BW4 := Lib.hid (after_byte OWN3.out BW3.out BW3.out.size hgrow4)
                  clear hown4 hgrow4
                  go_wp2_with fail
                  go_roundw
                  case rel =>
                    refine ⟨k + 1, false, bs ++ wrP true c, rfl, by go_num, by omega, HOK2.out, ?_, by rw [List.length_append]; omega, ?_, BW4.out⟩
                    · have := HEQ2.out
                      rw [HNUM.out] at this
                      exact this
                    · rw [HWP.out]
                      have := OWN4.out
                      try simp only [List.append_assoc, List.cons_append, List.nil_append] at this
                      try simp only [List.append_assoc, List.cons_append, List.nil_append]
                      exact this
                  case measure => simp [intOf]; omega
                · have x6 : decide ((48 : Int) ≤ (c : Int)) = true := decide_eq_true (by omega)
                  have x7 : decide ((c : Int) ≤ 57) = false := decide_eq_false (by omega)
                  have x8 : ((c : Int) == 34) = false := by rw [beq_eq_false_iff_ne]; omega
                  have x9 : ((c : Int) == 92) = true := by rw [beq_iff_eq]; omega
                  clear h34
                  go_wp2_with (first | (at_builtin; refine append_bytes _ rfl _ _ rfl w.heap.size _ (bs) rfl (OWN.out.below ((Below.refl _ _).alloc (Nat.le_refl _) _)) wr.heap.size [92] 1 rfl rfl ?a3 (by omega) ?b3 ?_))
                  case a3 => first | exact heap_alloc_new _ _ | (rw [HY.out]; exact heap_alloc_new _ _) | (simp [World.alloc, Lib.byteCells]; done) | (simp [World.alloc, HY.out]; done)
                  case b3 => have := BW.out.size; simp; omega
                  intro v3 w3 hown3 hgrow3
                  have OWN3 := Lib.hid hown3
                  have BW3 := Lib.hid (after_byte OWN.out BW.out BW.out.size hgrow3)
                  clear hown3 hgrow3
                  go_wp2_with (first | (at_builtin; refine append_bytes _ rfl _ _ rfl w.heap.size _ (bs ++ [92]) rfl (OWN3.out.below ((Below.refl _ _).alloc (Nat.le_refl _) _)) w3.heap.size [y] 1 rfl rfl ?a4 (by rw [List.length_append]; simp; omega) ?b4 ?_))
                  case a4 => first | exact heap_alloc_new _ _ | (rw [HY.out]; exact heap_alloc_new _ _) | (simp [World.alloc, Lib.byteCells]; done) | (simp [World.alloc, HY.out]; done)
                  case b4 => have := BW3.out.size; simp; omega
                  intro v4 w4 hown4 hgrow4
                  have OWN4 := Lib.hid hown4
                  have BW4 := Lib.hid (after_byte OWN3.out BW3.out BW3.out.size hgrow4)
                  clear hown4 hgrow4
                  go_wp2_with fail
                  go_roundw
                  case rel =>
                    refine ⟨k + 1, false, bs ++ wrP true c, rfl, by go_num, by omega, HOK2.out, ?_, by rw [List.length_append]; omega, ?_, BW4.out⟩
                    · have := HEQ2.out
                      rw [HNUM.out] at this
                      exact this
                    · rw [HWP.out]
                      have := OWN4.out
                      try simp only [List.append_assoc, List.cons_append, List.nil_append] at this
                      try simp only [List.append_assoc, List.cons_append, List.nil_append]
                      exact this
                  case measure => simp [intOf]; omega
            · have x8 : ((c : Int) == 34) = false := by rw [beq_eq_false_iff_ne]; omega
              have x9 : ((c : Int) == 92) = false := by rw [beq_eq_false_iff_ne]; omega
              rw [if_neg h34] at hwp
              clear h34
              cases bb
              · rw [if_neg (by simp), List.nil_append] at hwp
                have HWP := Lib.hid hwp
                clear hwp hdgi
                go_wp2_with (first | (at_builtin; refine append_bytes _ rfl _ _ rfl w.heap.size _ (bs) rfl (OWN.out.below ((Below.refl _ _).alloc (Nat.le_refl _) _)) wr.heap.size [y] 1 rfl rfl ?a3 (by omega) ?b3 ?_))
                case a3 => first | exact heap_alloc_new _ _ | (rw [HY.out]; exact heap_alloc_new _ _) | (simp [World.alloc, Lib.byteCells]; done) | (simp [World.alloc, HY.out]; done)
                case b3 => have := BW.out.size; simp; omega
                intro v3 w3 hown3 hgrow3
                have OWN3 := Lib.hid hown3
                have BW3 := Lib.hid (after_byte OWN.out BW.out BW.out.size hgrow3)
                clear hown3 hgrow3
                go_wp2_with fail
                go_roundw
                case rel =>
                  refine ⟨k + 1, false, bs ++ wrP false c, rfl, by go_num, by omega, HOK2.out, ?_, by rw [List.length_append]; omega, ?_, BW3.out⟩
                  · have := HEQ2.out
                    rw [HNUM.out] at this
                    exact this
                  · rw [HWP.out]
                    have := OWN3.out
                    try simp only [List.append_assoc, List.cons_append, List.nil_append] at this
                    try simp only [List.append_assoc, List.cons_append, List.nil_append]
                    exact this
                case measure => simp [intOf]; omega
              · by_cases h48 : 48 ≤ c
                · by_cases h57 : c ≤ 57
                  · have hnd : isDig c = true := by rw [hdgi, decide_eq_true h48, decide_eq_true h57]; rfl
                    rw [if_pos ⟨rfl, hnd⟩] at hwp
                    have HWP := Lib.hid hwp
                    have x6 : decide ((48 : Int) ≤ (c : Int)) = true := decide_eq_true (by omega)
                    have x7 : decide ((c : Int) ≤ 57) = true := decide_eq_true (by omega)
                    clear hwp hdgi hnd h48 h57
                    go_wp2_with (first | (at_builtin; refine append_bytes _ rfl _ _ rfl w.heap.size _ (bs) rfl (OWN.out.below ((Below.refl _ _).alloc (Nat.le_refl _) _)) wr.heap.size [92, 38] 2 rfl rfl ?a3 (by omega) ?b3 ?_))
                    case a3 => first | exact heap_alloc_new _ _ | (rw [HY.out]; exact heap_alloc_new _ _) | (simp [World.alloc, Lib.byteCells]; done) | (simp [World.alloc, HY.out]; done)
                    case b3 => have := BW.out.size; simp; omega
                    intro v3 w3 hown3 hgrow3
                    have OWN3 := Lib.hid hown3
                    have BW3 := Lib.hid (after_byte OWN.out BW.out BW.out.size hgrow3)
                    clear hown3 hgrow3
                    go_wp2_with (first | (at_builtin; refine append_bytes _ rfl _ _ rfl w.heap.size _ (bs ++ [92, 38]) rfl (OWN3.out.below ((Below.refl _ _).alloc (Nat.le_refl _) _)) w3.heap.size [y] 1 rfl rfl ?a4 (by rw [List.length_append]; simp; omega) ?b4 ?_))
                    case a4 => first | exact heap_alloc_new _ _ | (rw [HY.out]; exact heap_alloc_new _ _) | (simp [World.alloc, Lib.byteCells]; done) | (simp [World.alloc, HY.out]; done)
                    case b4 => have := BW3.out.size; simp; omega
                    intro v4 w4 hown4 hgrow4
                    have OWN4 := Lib.hid hown4
                    have BW4 := Lib.hid (after_byte OWN3.out BW3.out BW3.out.size hgrow4)
                    clear hown4 hgrow4
                    go_wp2_with fail
                    go_roundw
                    case rel =>
                      refine ⟨k + 1, false, bs ++ wrP true c, rfl, by go_num, by omega, HOK2.out, ?_, by rw [List.length_append]; omega, ?_, BW4.out⟩
                      · have := HEQ2.out
                        rw [HNUM.out] at this
                        exact this
                      · rw [HWP.out]
                        have := OWN4.out
                        try simp only [List.append_assoc, List.cons_append, List.nil_append] at this
                        try simp only [List.append_assoc, List.cons_append, List.nil_append]
                        exact this
                    case measure => simp [intOf]; omega
                  · have hnd : isDig c = false := by rw [hdgi, decide_eq_false h57, Bool.and_false]
                    rw [if_neg (by rw [hnd]; simp), List.nil_append] at hwp
                    have HWP := Lib.hid hwp
                    have x6 : decide ((48 : Int) ≤ (c : Int)) = true := decide_eq_true (by omega)
                    have x7 : decide ((c : Int) ≤ 57) = false := decide_eq_false (by omega)
                    clear hwp hdgi hnd h48 h57
                    go_wp2_with (first | (at_builtin; refine append_bytes _ rfl _ _ rfl w.heap.size _ (bs) rfl (OWN.out.below ((Below.refl _ _).alloc (Nat.le_refl _) _)) wr.heap.size [y] 1 rfl rfl ?a3 (by omega) ?b3 ?_))
                    case a3 => first | exact heap_alloc_new _ _ | (rw [HY.out]; exact heap_alloc_new _ _) | (simp [World.alloc, Lib.byteCells]; done) | (simp [World.alloc, HY.out]; done)
                    case b3 => have := BW.out.size; simp; omega
                    intro v3 w3 hown3 hgrow3
                    have OWN3 := Lib.hid hown3
                    have BW3 := Lib.hid (after_byte OWN.out BW.out BW.out.size hgrow3)
                    clear hown3 hgrow3
                    go_wp2_with fail
                    go_roundw
                    case rel =>
                      refine ⟨k + 1, false, bs ++ wrP true c, rfl, by go_num, by omega, HOK2.out, ?_, by rw [List.length_append]; omega, ?_, BW3.out⟩
                      · have := HEQ2.out
                        rw [HNUM.out] at this
                        exact this
                      · rw [HWP.out]
                        have := OWN3.out
                        try simp only [List.append_assoc, List.cons_append, List.nil_append] at this
                        try simp only [List.append_assoc, List.cons_append, List.nil_append]
                        exact this
                    case measure => simp [intOf]; omega
                · have hnd : isDig c = false := by rw [hdgi, decide_eq_false h48, Bool.false_and]
                  rw [if_neg (by rw [hnd]; simp), List.nil_append] at hwp
                  have HWP := Lib.hid hwp
                  have x6 : decide ((48 : Int) ≤ (c : Int)) = false := decide_eq_false (by omega)
                  clear hwp hdgi hnd h48
                  go_wp2_with (first | (at_builtin; refine append_bytes _ rfl _ _ rfl w.heap.size _ (bs) rfl (OWN.out.below ((Below.refl _ _).alloc (Nat.le_refl _) _)) wr.heap.size [y] 1 rfl rfl ?a3 (by omega) ?b3 ?_))
                  case a3 => first | exact heap_alloc_new _ _ | (rw [HY.out]; exact heap_alloc_new _ _) | (simp [World.alloc, Lib.byteCells]; done) | (simp [World.alloc, HY.out]; done)
                  case b3 => have := BW.out.size; simp; omega
                  intro v3 w3 hown3 hgrow3
                  have OWN3 := Lib.hid hown3
                  have BW3 := Lib.hid (after_byte OWN.out BW.out BW.out.size hgrow3)
                  clear hown3 hgrow3
                  go_wp2_with fail
                  go_roundw
                  case rel =>
                    refine ⟨k + 1, false, bs ++ wrP true c, rfl, by go_num, by omega, HOK2.out, ?_, by rw [List.length_append]; omega, ?_, BW3.out⟩
                    · have := HEQ2.out
                      rw [HNUM.out] at this
                      exact this
                    · rw [HWP.out]
                      have := OWN3.out
                      try simp only [List.append_assoc, List.cons_append, List.nil_append] at this
                      try simp only [List.append_assoc, List.cons_append, List.nil_append]
                      exact this
                  case measure => simp [intOf]; omega
    · obtain rfl : k = n := by omega
      have hok := HOK.out
      rw [List.take_of_length_le (by rw [HN.out]; exact Nat.le_refl _)] at hok
      obtain ⟨h1, rfl⟩ := HR.out.1 hok
      have heq := HEQ.out
      rw [List.drop_eq_nil_of_le (by rw [HN.out]; exact Nat.le_refl _), List.map_nil, wrL, List.append_nil] at heq
      rw [heq] at hlen
      have hl1 : T.length + 1 ≤ 140737488355328 := by omega
      have OWNT : Hid (Bytes wr w.heap.size u4 T) := by unfold Hid; rw [← heq]; exact OWN.out
      have H1 := Lib.hid h1
      clear heq h1 hok
      go_wp2_with (first | (at_builtin; refine append_bytes _ rfl _ _ rfl w.heap.size _ T rfl (OWNT.out.below ((Below.refl _ _).alloc (Nat.le_refl _) _)) wr.heap.size [34] 1 rfl rfl ?a9 hl1 ?b9 ?_))
      case a9 => first | exact heap_alloc_new _ _ | exact (Array.getElem?_eq_some_iff.1 (heap_alloc_new _ _)).2
      case b9 => have := BW.out.size; simp; omega
      intro v9 w9 hown9 hgrow9
      rw [← H1.out] at hown9
      have hcv := hown9.text
      have BW9 := Lib.hid (after_byte OWNT.out BW.out BW.out.size hgrow9)
      clear hown9 hgrow9
      go_wp2_with fail
      go_ret2
      exact ⟨rfl, BW9.out⟩
set_option maxRecDepth 20000 in
theorem refwrite_empty (ao : Option Addr) (cap : Nat) (w : World) :
    Calls Tryd.prog 17 #[.slice ao 0 cap] w fun e w' => e = .returned (.tuple #[.string ⟨#[34, 34]⟩, .int .i64 0]) ∧ Below w.heap.size w w' := by
  go_enter Tryd.func17, Tryd.ntmps17
  go_wp2_with (first | (at_builtin; refine append_bytes _ rfl _ _ rfl w.heap.size _ [] rfl (Bytes.nil _ _) w.heap.size [34] 1 rfl rfl ?a0 (by simp) ?b0 ?_))
  case a0 => exact heap_alloc_new _ _
  case b0 => simp
  intro v0 w0 hown0 hgrow0
  have OWN0 : Hid (Bytes w0 w.heap.size v0 [34]) := hown0
  have BW0 : Hid (Below w.heap.size w w0) := Lib.hid (after_byte (Bytes.nil w w.heap.size) (Below.refl _ _) (Nat.le_refl _) hgrow0)
  clear hown0 hgrow0
  go_wp2_with fail
  refine wp_loop_rounds 1 ?_
  rw [rounds_succ]
  go_wp2_with (first | (at_builtin; refine append_bytes _ rfl _ _ rfl w.heap.size _ [34] rfl (OWN0.out.below ((Below.refl _ _).alloc (Nat.le_refl _) _)) w0.heap.size [34] 1 rfl rfl ?a9 (by simp) ?b9 ?_))
  case a9 => first | exact heap_alloc_new _ _ | exact (Array.getElem?_eq_some_iff.1 (heap_alloc_new _ _)).2
  case b9 => have := BW0.out.size; simp; omega
  intro v9 w9 hown9 hgrow9
  have OWN9 : Hid (Bytes w9 w.heap.size v9 [34, 34]) := hown9
  have hcv := OWN9.out.text
  have BW9 := Lib.hid (after_byte OWN0.out BW0.out BW0.out.size hgrow9)
  clear hown9 hgrow9
  go_wp2_with fail
  go_ret2
  exact ⟨rfl, BW9.out⟩
theorem refwrite_any (v : Value) (zs : List Int) (hl : zs.length * 8 ≤ 140737488351232) (w : World) (hv : ArgI w v zs) :
    Calls Tryd.prog 17 #[v] w fun e w' => e = .returned (.tuple #[.string ⟨(writeI zs).1.toArray⟩, .int .i64 (writeI zs).2]) ∧ Below w.heap.size w w' := by
  rcases hv with ⟨ao, cap, rfl, rfl⟩ | ⟨b, off, cap, rfl, hb, hc⟩
  · exact refwrite_empty ao cap w
  · exact refwrite_row zs zs.length rfl hl b off cap w hb hc
/-- QuoteWrites. -/
theorem writes_two (v : Value) (zs : List Int) (t : ByteArray) (x : Int) (w : World) (ht : Tab w) (hv : ArgI w v zs)
    (C1 : Hid (Calls Tryd.prog 16 #[v] w fun e w' => e = .returned (.tuple #[.string t, .int .i64 x]) ∧ Below w.heap.size w w'))
    (C2 : Hid (∀ W, Below w.heap.size w W → Calls Tryd.prog 17 #[v] W fun e w' => e = .returned (.tuple #[.string t, .int .i64 x]) ∧ Below W.heap.size W w')) :
    Calls Tryd.prog 5 #[v] w fun e w' => e = .returned (.bool true) ∧ Below w.heap.size w w' := by
  have HT := Lib.hid ht
  have A := Lib.hid (fun W (h : Tab W) => awake_any W h)
  have ett : (t.toList == t.toList) = true := beq_self_eq_true _
  clear ht hv
  go_enter Tryd.func5, Tryd.ntmps5
  go_wp2_with fail
  refine C1.out.mono ?_
  rintro e w1 ⟨rfl, hb1⟩
  have HB1 := Lib.hid hb1
  clear hb1
  go_wp2_with fail
  refine (C2.out _ HB1.out).mono ?_
  rintro e w2 ⟨rfl, hb2⟩
  have HB2 := Lib.hid (HB1.out.trans (hb2.mono HB1.out.size))
  clear hb2
  go_wp2_with fail
  refine (A.out _ (HT.out.below HB2.out (Nat.le_refl _))).mono ?_
  rintro e w3 ⟨rfl, hb3⟩
  have HB3 := Lib.hid (HB2.out.trans (hb3.mono HB2.out.size))
  clear hb3
  go_wp2_with fail
  go_ret
  exact ⟨rfl, HB3.out⟩
theorem writes_walk (v : Value) (zs : List Int) (hl : zs.length * 8 ≤ 140737488351232) (w : World) (hv : ArgI w v zs) (ht : Tab w) :
    Calls Tryd.prog 5 #[v] w fun e w' => e = .returned (.bool true) ∧ Below w.heap.size w w' :=
  writes_two v zs _ _ w ht hv (Write_any v zs hl w ht.1 hv) (fun W h => refwrite_any v zs hl W (hv.below h))
end Go.Proofs.YtdppfhgihoibnaaDoor.Qt
