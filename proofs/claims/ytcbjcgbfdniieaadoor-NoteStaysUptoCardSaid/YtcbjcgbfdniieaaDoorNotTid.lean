/-
  The contract of note's Tidy. Conditions: the comment has at most 2^40 bytes, no line of it 2^32, and what is laid anew at most 2^46 bytes; some variable of the library's own holds some number.
-/
import Derived.Test.YtcbjcgbfdniieaaDoorNotLin
namespace Go.Proofs.YtcbjcgbfdniieaaDoor.Not
open Go.RowKit Gly
open Plc (linesL trimS Texts)
set_option linter.unusedSimpArgs false
set_option linter.unusedVariables false

/-- The error of a comment laid anew, and the text. -/
def tidyE (s : ByteArray) (c : Int) : Int := if c < 1 ∨ 65536 < c then 1 else if kindN s.data.toList = 0 then 60 else 0
def tidyS (s : ByteArray) (c : Int) : ByteArray := if tidyE s c = 0 then ⟨(tidyB (c.toNat + 2) s.data.toList).toArray⟩ else ByteArray.empty
def datas (L : List ByteArray) : List (List UInt8) := L.map (·.data.toList)
theorem tail_cons (n : Nat) (x : ByteArray) (r : List ByteArray) : tailB n (datas (x :: r)) = 10 :: ((if x.data.toList = [] then [] else List.replicate n 32 ++ x.data.toList) ++ tailB n (datas r)) := rfl
theorem bld_small {acc : List UInt8} {T Y : List UInt8} (h : acc ++ Y = T) (hT : T.length ≤ 70368744177664) : acc.length + Y.length ≤ 70368744177664 := by
  rw [← List.length_append, h]
  exact hT

theorem Tidy_bad (s : ByteArray) (c : Int) (hc : c < 1 ∨ 65536 < c) (w : World) :
    Calls Tryd.prog 19 #[.string s, .int .i64 c] w fun e w' => e = .returned (.tuple #[.string ByteArray.empty, .int .i64 1]) ∧ Below w.heap.size w w' := by
  by_cases h1 : c < 1
  · go_enter Tryd.func19, Tryd.ntmps19
    go_wp2_with fail
    go_ret2
    exact ⟨rfl, Below.refl _ _⟩
  · have h2 : 65536 < c := by omega
    have t1 : decide (c < 1) = false := decide_eq_false h1
    have t2 : decide (65536 < c) = true := decide_eq_true h2
    clear hc
    go_enter Tryd.func19, Tryd.ntmps19
    go_wp2_with fail
    go_ret2
    exact ⟨rfl, Below.refl _ _⟩
theorem Tidy_no (s : ByteArray) (n : Nat) (hs : s.size ≤ 1125899906842624) (h1 : 1 ≤ n) (h2 : n ≤ 65536) (hk : kindN s.data.toList = 0) (w : World) :
    Calls Tryd.prog 19 #[.string s, .int .i64 (n : Int)] w fun e w' => e = .returned (.tuple #[.string ByteArray.empty, .int .i64 60]) ∧ Below w.heap.size w w' := by
  have C1 := Lib.hid (fun W => Lines_no s hs hk W)
  have t1 : decide ((n : Int) < 1) = false := decide_eq_false (by omega)
  have t2 : decide (65536 < (n : Int)) = false := decide_eq_false (by omega)
  clear hk
  go_enter Tryd.func19, Tryd.ntmps19
  go_wp2_with fail
  refine (C1.out _).mono ?_
  rintro e w1 ⟨rfl, hb⟩
  have HB1 := Lib.hid hb
  clear hb
  go_wp2_with fail
  go_ret2
  exact ⟨rfl, HB1.out⟩

theorem margin_eq (n : Nat) : (⟨#[10]⟩ ++ ⟨(List.replicate n 32).toArray⟩ : ByteArray).data.toList = 10 :: List.replicate n 32 := by
  simp

set_option maxHeartbeats 4000000 in
theorem Tidy_yes (s : ByteArray) (n : Nat) (hOk : Ok s) (h1 : 1 ≤ n) (h2 : n ≤ 65536) (hk : kindN s.data.toList ≠ 0) (hT : (tidyB (n + 2) s.data.toList).length ≤ 70368744177664) (w : World) (hm : Mx w) :
    Calls Tryd.prog 19 #[.string s, .int .i64 (n : Int)] w fun e w' => e = .returned (.tuple #[.string ⟨(tidyB (n + 2) s.data.toList).toArray⟩, .int .i64 0]) ∧ Below w.heap.size w w' := by
  have C1 := Lib.hid (fun W hW => Lines_yes s hOk hk W hW)
  have C2 : Hid (∀ W : World, Calls Tryd.prog 34 #[.string ⟨#[32]⟩, .int .i64 ((n : Int) + 2)] W fun e w' => e = .returned (.string ⟨(List.replicate (n + 2) 32).toArray⟩) ∧ Below W.heap.size W w') := fun W => repeat_any (n + 2) (by omega) W
  have t1 : decide ((n : Int) < 1) = false := decide_eq_false (by omega)
  have t2 : decide (65536 < (n : Int)) = false := decide_eq_false (by omega)
  have hbd : datas (barS s) = barL s.data.toList := barS_data s
  have hlen := barS_len s
  have hs1 := hOk.1
  have hbs := barS_ne s
  obtain ⟨T, hTe⟩ : ∃ T, tidyB (n + 2) s.data.toList = T := ⟨_, rfl⟩
  have hTj : joinB (n + 2) (datas (barS s)) = T := by rw [hbd, ← hTe]; rfl
  rw [hTe] at hT ⊢
  generalize barS s = L at *
  cases L with
  | nil => exact absurd rfl hbs
  | cons x0 L =>
    have hTt : x0.data.toList ++ tailB (n + 2) (datas L) = T := hTj
    obtain ⟨m, hm'⟩ : ∃ m, L.length = m := ⟨_, rfl⟩
    rw [List.length_cons, hm'] at hlen
    simp only [List.length_cons, hm'] at C1
    have hMd := margin_eq (n + 2)
    obtain ⟨R, hR⟩ : ∃ R : ByteArray, ⟨(List.replicate (n + 2) 32).toArray⟩ = R := ⟨_, rfl⟩
    have hRs : R.size ≤ 65538 := by
      rw [← hR, Lib.size_eq]
      show (List.replicate (n + 2) (32 : UInt8)).length ≤ _
      rw [List.length_replicate]
      omega
    have t5 : ¬ 9223372036854775807 < 1 + R.size := by omega
    have t6 : ¬ 9223372036854775807 < (⟨#[10]⟩ : ByteArray).size + R.size := t5
    rw [hR] at hMd C2
    obtain ⟨M, hM⟩ : ∃ M : ByteArray, (⟨#[10]⟩ : ByteArray) ++ R = M := ⟨_, rfl⟩
    rw [hM] at hMd
    have HMD := Lib.hid hMd
    have HTT := Lib.hid hTt
    have HT := Lib.hid hT
    have HL := Lib.hid hm'
    have HMX := Lib.hid hm
    clear hbd hbs hTj hTe hTt hm' hMd hR hT hm hk hOk
    go_enter Tryd.func19, Tryd.ntmps19
    go_wp2_with fail
    refine (C1.out _ HMX.out).mono ?_
    rintro e w1 ⟨g, cap, rfl, htx, hcap, hb⟩
    have HB1 := Lib.hid hb
    have HTX1 := Lib.hid htx
    clear hb htx
    go_wp2_with fail
    refine (C2.out _).mono ?_
    rintro e w2 ⟨rfl, hb⟩
    have HB2 := Lib.hid (below_trans HB1.out hb)
    have HTX2 := Lib.hid (HTX1.out.below hb)
    clear hb
    have hW0 : Hid (Below w2.heap.size w2 (w2.alloc (.cells #[.pointer none, .slice none 0 0] 46))) := (Below.refl _ _).alloc (Nat.le_refl _) _
    have hB0 : Hid (Bld w2.heap.size w2.heap.size [] (w2.alloc (.cells #[.pointer none, .slice none 0 0] 46))) := Lib.IsBuilderF.of (Lib.fresh_isBuilder 46 5 w2)
    have hc0 : (w2.alloc (.cells #[.pointer none, .slice none 0 0] 46)).cell? ⟨g, 0, none⟩ = some (.string x0) := (HTX2.out.below hW0.out).2 0 (by simp)
    have hx0 : Hid (([] : List UInt8).length + x0.size ≤ 140737488355328) := by
      have := HT.out
      rw [← HTT.out, List.length_append, ← Lib.size_eq] at this
      show 0 + x0.size ≤ _
      omega
    go_wp2_with fail
    refine (wstr_any w2.heap.size w2.heap.size [] x0 _ hB0.out hx0.out hW0.out.size).mono ?_
    rintro e w3 ⟨rfl, hbl, hb⟩
    have HB3 := Lib.hid (hW0.out.trans hb)
    have HBL := Lib.hid hbl
    clear hbl hb hc0
    by_cases hc1 : cap = 1
    · obtain rfl : m = 0 := by omega
      subst hc1
      have hT2 : Hid (x0.data.toList = T) := by
        have hl := HL.out
        have := HTT.out
        rw [List.eq_nil_of_length_eq_zero hl] at this
        unfold Hid
        simpa [datas, tailB] using this
      have BLT : Hid (Bld w2.heap.size w2.heap.size T w3) := by
        have := HBL.out
        rw [List.nil_append, hT2.out] at this
        exact this
      go_wp2_with fail
      go_loopw [37] (fun iv wr => iv = .int .i64 0 ∧ wr = w3) (fun _ _ => 0)
      case atStart => exact ⟨rfl, rfl⟩
      case round =>
        obtain ⟨rfl, rfl⟩ := hrel
        go_wp2_with fail
        refine (bstr_any w2.heap.size w2.heap.size T _ BLT.out HB3.out.size).mono ?_
        rintro e w4 ⟨rfl, hb⟩
        have BW4 := Lib.hid (HB2.out.trans ((HB3.out.trans hb).mono HB2.out.size))
        clear hb
        go_wp2_with fail
        go_ret2
        exact ⟨rfl, BW4.out⟩
    · go_wp2_with fail
      go_loopw [37] (fun iv wr => ∃ (k : Nat) (acc : List UInt8), iv = .int .i64 (k : Int) ∧ k ≤ m ∧ acc ++ tailB (n + 2) (datas (L.drop k)) = T ∧ Bld w2.heap.size w2.heap.size acc wr ∧ Below w2.heap.size w2 wr) (fun iv _ => m - (intOf iv).toNat)
      case atStart => exact ⟨0, x0.data.toList, rfl, by omega, HTT.out, HBL.out, HB3.out⟩
      case round =>
        obtain ⟨k, acc, rfl, hk, hq, hbl, hbw⟩ := hrel
        have HQ := Lib.hid hq
        have BL := Lib.hid hbl
        have BW := Lib.hid hbw
        clear hq hbl hbw
        by_cases hkm : k < m
        · obtain ⟨x, hx⟩ : ∃ x, L.getD k ByteArray.empty = x := ⟨_, rfl⟩
          have hce : wr.cell? ⟨g, 1 + k, none⟩ = some (.string x) := by
            have := (HTX2.out.below BW.out).2 (1 + k) (by rw [List.length_cons, HL.out]; omega)
            rw [this, Nat.add_comm, List.getD_cons_succ, hx]
          have hdr : Hid (L.drop k = x :: L.drop (k + 1)) := by
            have hl := HL.out
            unfold Hid
            rw [← hx, List.getD_eq_getElem?_getD, List.getElem?_eq_getElem (by omega), List.drop_eq_getElem_cons (by omega)]
            rfl
          have hsz : Hid (acc.length + (1 + (n + 2) + x.size) ≤ 70368744177664 ∨ x.data.toList = []) := by
            by_cases he : x.data.toList = []
            · exact .inr he
            · refine .inl ?_
              have := HT.out
              rw [← HQ.out, hdr.out, tail_cons, if_neg he, List.length_append, List.length_cons, List.length_append, List.length_append, List.length_replicate, ← Lib.size_eq] at this
              omega
          have hsz1 : Hid (acc.length + 1 ≤ 140737488355328) := by
            have := HT.out
            rw [← HQ.out, hdr.out, tail_cons, List.length_append, List.length_cons] at this
            unfold Hid
            omega
          clear hx
          cases he : x.toList.isEmpty with
          | true =>
            have hxe : Hid (x.data.toList = []) := by
              rw [← Lib.toList_data]
              exact List.isEmpty_iff.1 he
            go_wp2_with fail
            refine (wbyte_any w2.heap.size w2.heap.size acc 10 _ BL.out hsz1.out BW.out.size).mono ?_
            rintro e w4 ⟨rfl, hbl, hb⟩
            have BL4 := Lib.hid hbl
            have BW4 := Lib.hid (BW.out.trans hb)
            clear hbl hb
            go_wp2_with fail
            go_roundw
            case rel => exact ⟨k + 1, acc ++ [10], by go_num, by omega, by rw [← HQ.out, hdr.out, tail_cons, if_pos hxe.out]; simp, BL4.out, BW4.out⟩
            case measure => simp [intOf]; omega
          | false =>
            have hxe : Hid (x.data.toList ≠ []) := by
              intro h
              rw [Lib.toList_data, h] at he
              exact absurd he (by decide)
            have hMs : Hid (M.size = 1 + (n + 2)) := by
              unfold Hid
              rw [Lib.size_eq, HMD.out]
              simp
              omega
            have hs1 : Hid (acc.length + M.size ≤ 140737488355328) := by
              have h1 := hMs.out
              rcases hsz.out with h | h
              · unfold Hid; omega
              · exact absurd h hxe.out
            go_wp2_with fail
            refine (wstr_any w2.heap.size w2.heap.size acc M _ BL.out hs1.out BW.out.size).mono ?_
            rintro e w4 ⟨rfl, hbl, hb⟩
            have BL4 := Lib.hid hbl
            have BW4 := Lib.hid (BW.out.trans hb)
            have hs2 : Hid ((acc ++ M.data.toList).length + x.size ≤ 140737488355328) := by
              have h1 := hMs.out
              unfold Hid
              rw [List.length_append, ← Lib.size_eq]
              rcases hsz.out with h | h
              · omega
              · exact absurd h hxe.out
            clear hbl hb
            go_wp2_with fail
            refine (wstr_any w2.heap.size w2.heap.size (acc ++ M.data.toList) x _ BL4.out hs2.out BW4.out.size).mono ?_
            rintro e w5 ⟨rfl, hbl, hb⟩
            have BL5 := Lib.hid hbl
            have BW5 := Lib.hid (BW4.out.trans hb)
            clear hbl hb
            go_wp2_with fail
            go_roundw
            case rel => exact ⟨k + 1, acc ++ M.data.toList ++ x.data.toList, by go_num, by omega, by rw [← HQ.out, hdr.out, tail_cons, if_neg hxe.out, HMD.out]; simp, BL5.out, BW5.out⟩
            case measure => simp [intOf]; omega
        · obtain rfl : k = m := by omega
          have hT2 : Hid (acc = T) := by
            have hl := HL.out
            have := HQ.out
            rw [List.drop_eq_nil_of_le (by omega)] at this
            unfold Hid
            simpa [datas, tailB] using this
          have BL2 := BL.out
          rw [hT2.out] at BL2
          have BLT := Lib.hid BL2
          clear BL2
          go_wp2_with fail
          refine (bstr_any w2.heap.size w2.heap.size T _ BLT.out BW.out.size).mono ?_
          rintro e w4 ⟨rfl, hb⟩
          have BW4 := Lib.hid (HB2.out.trans ((BW.out.trans hb).mono HB2.out.size))
          clear hb
          go_wp2_with fail
          go_ret2
          exact ⟨rfl, BW4.out⟩
end Go.Proofs.YtcbjcgbfdniieaaDoor.Not
