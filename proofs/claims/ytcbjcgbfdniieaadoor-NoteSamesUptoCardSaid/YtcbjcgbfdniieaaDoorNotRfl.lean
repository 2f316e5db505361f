/-
  The contract of the document's own Lines for comments. Conditions: the comment has at most 2^40 bytes, no line of it 2^32.
-/
import Derived.Test.YtcbjcgbfdniieaaDoorNotRft
import Derived.Test.YtcbjcgbfdniieaaDoorNotRfy
namespace Go.Proofs.YtcbjcgbfdniieaaDoor.Not
open Go.RowKit Gly
open Plc (linesL trimS Texts)
set_option linter.unusedSimpArgs false
set_option linter.unusedVariables false

theorem refLines_no (s : ByteArray) (hs : s.size ≤ 1125899906842624) (hk : kindN s.data.toList = 0) (w : World) :
    Calls Tryd.prog 17 #[.string s] w fun e w' => e = .returned (.tuple #[.slice none 0 0, .int .i64 60]) ∧ Below w.heap.size w w' := by
  have c1 := fun W => refKind_any s hs W
  rw [hk] at c1
  have C1 := Lib.hid c1
  clear c1 hk
  go_enter Tryd.func17, Tryd.ntmps17
  go_wp2_with fail
  refine (C1.out _).mono ?_
  rintro e w1 ⟨rfl, rfl⟩
  go_wp2_with fail
  go_ret2
  exact ⟨rfl, Below.refl _ _⟩

set_option maxHeartbeats 2000000 in
theorem refLines_yes (s : ByteArray) (hOk : Ok s) (hk : kindN s.data.toList ≠ 0) (w : World) :
    Calls Tryd.prog 17 #[.string s] w fun e w' => ∃ g cap, e = .returned (.tuple #[.slice (some ⟨g, 0, none⟩) (barS s).length cap, .int .i64 0]) ∧ Tx w' g (barS s) ∧ (barS s).length ≤ cap ∧ Below w.heap.size w w' := by
  obtain ⟨hs, hsz⟩ := hOk
  have c1 := fun W => refKind_any s (by omega) W
  have c2 := fun W => Plc.refLines_any s (by omega) W
  have hle := Plc.linesL_le s
  have hne := lines_pos s
  have hbl : (barS s).length = (linesL s).length := by unfold barS; rw [List.length_map]
  rw [hbl]
  have hbs : barS s = (linesL s).map bareS := rfl
  rw [hbs]
  generalize linesL s = L at *
  generalize kindN s.data.toList = k at *
  have t1 : ((k : Int) == 0) = false := by rw [beq_eq_false_iff_ne]; omega
  have C1 := Lib.hid c1
  have C2 := Lib.hid c2
  have HSZ := Lib.hid hsz
  clear c1 c2 hsz hbl hbs
  go_enter Tryd.func17, Tryd.ntmps17
  go_wp2_with fail
  refine (C1.out _).mono ?_
  rintro e w1 ⟨rfl, rfl⟩
  go_wp2_with fail
  refine (C2.out _).mono ?_
  rintro e w2 ⟨v, rfl, hown, hb⟩
  have HB2 := Lib.hid hb
  have hw1 : Hid (w.heap.size ≤ w2.heap.size) := hb.size
  unfold Plc.Texts at hown
  obtain ⟨g, cap, rfl⟩ : ∃ g cap, v = .slice (some ⟨g, 0, none⟩) L.length cap := by
    rcases hown.2 with ⟨_, h0⟩ | ⟨g, cap, cur, rfl, _⟩
    · omega
    · exact ⟨g, cap, rfl⟩
  obtain ⟨B, hBe⟩ : ∃ B, w.heap.size = B := ⟨_, rfl⟩
  have hBw : Hid (w.heap.size ≤ B) := by unfold Hid; rw [← hBe]; exact Nat.le_refl _
  rw [hBe] at hown hw1
  have HO := Lib.hid hown
  clear hown hb hBe
  obtain ⟨n, hn⟩ : ∃ n, L.length = n := ⟨_, rfl⟩
  rw [hn] at HO hne hle
  have HN := Lib.hid hn
  rw [hn]
  go_wp2_with fail
  go_loopw [5] (fun iv wr => ∃ (done r : List ByteArray) (k : Nat), iv = .int .i64 (k : Int) ∧ done.length = k ∧ k + r.length = n ∧ (∀ x ∈ r, x.size < 4294967281) ∧ done ++ r.map bareS = L.map bareS ∧
      wr.ownsRow B 9 1 (.slice (some ⟨g, 0, none⟩) n cap) n ((done ++ r).map Value.string) ∧ Below w.heap.size w wr ∧ B ≤ wr.heap.size) (fun iv _ => n - (intOf iv).toNat)
  case atStart => exact ⟨[], L, 0, rfl, rfl, by rw [HN.out]; omega, HSZ.out, rfl, HO.out, HB2.out, hw1.out⟩
  case round =>
    obtain ⟨done, r, k, rfl, hk, hlen, hr, hq, hown, hbw, hbs⟩ := hrel
    have HQ := Lib.hid hq
    have HR := Lib.hid hr
    have HK := Lib.hid hk
    have HOWN := Lib.hid hown
    have HBW := Lib.hid hbw
    have HBS := Lib.hid hbs
    clear hq hr hown hbw hk hbs
    cases r with
    | nil =>
      obtain rfl : k = n := by simpa using hlen
      clear hlen
      go_wp2_with fail
      go_ret2
      refine ⟨g, cap, by rw [HN.out]; rfl, ⟨(World.ownsRow.lt HOWN.out g rfl).2, fun j hj => ?_⟩, (by rw [HN.out]; exact own_cap HOWN.out), HBW.out⟩
      have hq := HQ.out
      have ho := HOWN.out
      rw [List.map_nil, List.append_nil] at hq
      rw [List.append_nil, hq] at ho
      rw [List.length_map, HN.out] at hj
      exact own_at ho j hj (by rw [List.length_map, HN.out]; exact hj)
    | cons x r =>
      have hx := HR.out x (by simp)
      rw [List.length_cons] at hlen
      have hkn : k < n := by omega
      have hcell : wr.cell? ⟨g, k, none⟩ = some (.string x) := by
        have hd := HK.out
        have hc := own_at HOWN.out k hkn (by simp; omega)
        rw [hc]
        simp [← hd]
      go_wp2_with fail
      refine (tidy_any x (by omega) _).mono ?_
      rintro e w3 ⟨rfl, hb⟩
      have HO3 := Lib.hid (own_below HOWN.out hb)
      have HB3 := Lib.hid (HBW.out.trans (hb.mono HBW.out.size))
      have HS3 : Hid (B ≤ w3.heap.size) := Nat.le_trans HBS.out hb.size
      have hcell3 : w3.cell? ⟨g, k, none⟩ = some (.string x) := by
        have hd := HK.out
        have hc := own_at HO3.out k hkn (by simp; omega)
        rw [hc]
        simp [← hd]
      have hfz := World.ownsRow.frozenAt HO3.out k
      clear hb hcell
      go_wp2_with fail
      go_roundw
      case rel =>
        have hs := texts_set (a := w3) (y := bareS x) HO3.out (Below.refl _ _) HS3.out
        rw [HK.out] at hs
        have hq := HQ.out
        have hbb : Below w.heap.size w3 (w3.setCell ⟨g, k, none⟩ (.string (bareS x))) := hs.2.1.mono hBw.out
        refine ⟨done ++ [bareS x], r, k + 1, by go_num, by rw [List.length_append, HK.out]; rfl, by omega, fun y hy => HR.out y (by simp [hy]), by rw [List.append_assoc]; exact hq, hs.1, HB3.out.trans hbb, Nat.le_trans HS3.out hs.2.2⟩
      case measure => simp [intOf]; omega
end Go.Proofs.YtcbjcgbfdniieaaDoor.Not
