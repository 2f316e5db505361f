/-
  The contracts of note's bare and Lines. Conditions: a line is below 2^32 bytes; the comment has at most 2^40 bytes; each of its lines at most 2^31; some variable of the library's own holds some number.
-/
import Derived.Test.YtcbjcgbfdniieaaDoorNotKnd
import Derived.Test.YtcbjcgbfdniieaaDoorNotLnk
import Derived.OwnWalk
import Derived.Laws.OwnMore
import Derived.Deep.AppendLies
namespace Go.Proofs.YtcbjcgbfdniieaaDoor.Not
open Go.RowKit Gly
open Plc (linesL trimS Texts)
set_option linter.unusedSimpArgs false
set_option linter.unusedVariables false

theorem map_size (x : ByteArray) (f : UInt8 → UInt8) : (⟨(x.data.toList.map f).toArray⟩ : ByteArray).size = x.size := by
  rw [Lib.size_eq, Lib.size_eq]
  show (x.data.toList.map f).length = _
  rw [List.length_map]
theorem bare_of (x y z t : ByteArray) (hy : y = ⟨(x.data.toList.map (fun b => if b = 9 then 32 else b)).toArray⟩) (hz : z = ⟨(y.data.toList.map (fun b => if b = 11 then 32 else b)).toArray⟩) (ht : t = trimS z) : (⟨(trimL t.data.toList).toArray⟩ : ByteArray) = bareS x := by
  unfold bareS bareB
  rw [ht, trim_link, hz]
  have : (⟨(y.data.toList.map (fun b => if b = 11 then 32 else b)).toArray⟩ : ByteArray).data.toList = x.data.toList.map fl := by
    show y.data.toList.map _ = _
    rw [hy]
    show List.map _ (List.map _ x.data.toList) = _
    rw [List.map_map]
    apply List.map_congr_left
    intro b _
    unfold fl
    simp only [Function.comp]
    by_cases h : b = 9
    · subst h; rfl
    · rw [if_neg h]
      by_cases h2 : b = 11
      · rw [if_pos h2, if_pos (.inr h2)]
      · rw [if_neg h2, if_neg (by rintro (h3 | h3); exact h h3; exact h2 h3)]
  rw [this]
theorem bare_any (x : ByteArray) (hs : x.size < 4294967281) (w : World) (hm : Mx w) :
    Calls Tryd.prog 31 #[.string x] w fun e w' => e = .returned (.string (bareS x)) ∧ Below w.heap.size w w' := by
  have c1 := repl_any 9 (by decide) x hs w hm
  obtain ⟨y, hy⟩ : ∃ y : ByteArray, y = ⟨(x.data.toList.map (fun b => if b = 9 then 32 else b)).toArray⟩ := ⟨_, rfl⟩
  rw [← hy] at c1
  have hys : y.size = x.size := by rw [hy, map_size]
  have c2 := fun W hW => repl_any 11 (by decide) y (by omega) W hW
  obtain ⟨z, hz⟩ : ∃ z : ByteArray, z = ⟨(y.data.toList.map (fun b => if b = 11 then 32 else b)).toArray⟩ := ⟨_, rfl⟩
  rw [← hz] at c2
  have hzs : z.size = x.size := by rw [hz, map_size, hys]
  have c3 := fun W => Plc.trim_any z (by omega) W
  obtain ⟨t, ht⟩ : ∃ t : ByteArray, t = trimS z := ⟨_, rfl⟩
  rw [← ht] at c3
  have c4 := fun W => trimLeft_any t W
  rw [bare_of x y z t hy hz ht] at c4
  generalize bareS x = r at *
  have C1 := Lib.hid c1
  have C2 := Lib.hid c2
  have C3 := Lib.hid c3
  have C4 := Lib.hid c4
  have HM := Lib.hid hm
  clear c1 c2 c3 c4 hy hz ht hys hzs hm
  go_enter Tryd.func31, Tryd.ntmps31
  go_wp2_with fail
  refine C1.out.mono ?_
  rintro e w1 ⟨rfl, hb⟩
  have HB1 := Lib.hid hb
  have HM1 := Lib.hid (HM.out.below hb (Nat.le_refl _))
  clear hb
  go_wp2_with fail
  refine (C2.out _ HM1.out).mono ?_
  rintro e w2 ⟨rfl, hb⟩
  have HB2 := Lib.hid (below_trans HB1.out hb)
  clear hb
  go_wp2_with fail
  refine (C3.out _).mono ?_
  rintro e w3 ⟨rfl, hb⟩
  have HB3 := Lib.hid (below_trans HB2.out hb)
  clear hb
  go_wp2_with fail
  refine (C4.out _).mono ?_
  rintro e w4 ⟨rfl, rfl⟩
  go_wp2_with fail
  go_ret
  exact ⟨rfl, HB3.out⟩
/-- A list of texts in memory. -/
def Tx (w : World) (g : Nat) (L : List ByteArray) : Prop := g < w.heap.size ∧ ∀ j, j < L.length → w.cell? ⟨g, j, none⟩ = some (.string (L.getD j ByteArray.empty))
theorem Tx.below {w w' : World} {g : Nat} {L : List ByteArray} (h : Tx w g L) (hb : Below w.heap.size w w') : Tx w' g L :=
  ⟨Nat.lt_of_lt_of_le h.1 hb.size, fun j hj => by rw [hb.cell (p := ⟨g, j, none⟩) h.1]; exact h.2 j hj⟩
theorem own_at {w : World} {B g n cap : Nat} {xs : List ByteArray} (h : w.ownsRow B 9 1 (.slice (some ⟨g, 0, none⟩) n cap) n (xs.map Value.string)) (k : Nat) (hk : k < n) (hx : k < xs.length) : w.cell? ⟨g, k, none⟩ = some (.string (xs.getD k ByteArray.empty)) := by
  rw [h.cellAt k (by omega)]
  simp [hx]
theorem own_below {w w' : World} {B g n cap : Nat} {xs : List Value} (h : w.ownsRow B 9 1 (.slice (some ⟨g, 0, none⟩) n cap) n xs) (hb : Below w.heap.size w w') : w'.ownsRow B 9 1 (.slice (some ⟨g, 0, none⟩) n cap) n xs :=
  World.ownsRow.kept h (row := none) ⟨hb.os, hb.tape, hb.output, hb.size, fun k hk _ => hb.block k hk⟩ (.inr (by simp [Value.ownBlock]))
theorem own_cap {w : World} {B g n cap : Nat} {xs : List Value} (h : w.ownsRow B 9 1 (.slice (some ⟨g, 0, none⟩) n cap) n xs) : n ≤ cap := by
  rcases h.2 with ⟨h', _⟩ | ⟨g', cap', cur, h', _, _, hnc, _⟩
  · simp at h'
  · simp only [Value.slice.injEq, true_and] at h'
    rw [h'.2]
    exact hnc
/-- One text written. -/
theorem texts_set {w a : World} {B g n cap : Nat} {done r : List ByteArray} {x y : ByteArray} (h : w.ownsRow B 9 1 (.slice (some ⟨g, 0, none⟩) n cap) n ((done ++ x :: r).map Value.string)) (ha : Below B a w) (hB : B ≤ w.heap.size) :
    (w.setCell ⟨g, done.length, none⟩ (.string y)).ownsRow B 9 1 (.slice (some ⟨g, 0, none⟩) n cap) n (((done ++ [y]) ++ r).map Value.string) ∧ Below B a (w.setCell ⟨g, done.length, none⟩ (.string y)) ∧ w.heap.size ≤ (w.setCell ⟨g, done.length, none⟩ (.string y)).heap.size := by
  obtain ⟨h1, h2⟩ := h.stored done.length (.string y)
  refine ⟨?_, ha.grown h2 hB (fun k hk => by cases hk; exact (World.ownsRow.lt h g rfl).1), h2.size⟩
  have e : ((done ++ x :: r).map Value.string).set done.length (.string y) = ((done ++ [y]) ++ r).map Value.string := by
    rw [List.map_append, List.set_append_right _ _ (by simp), List.length_map, Nat.sub_self, List.map_cons, List.set_cons_zero]
    simp
  rw [e] at h1
  exact h1

/-- A text that is not too large, nor a line of it. -/
def Ok (s : ByteArray) : Prop := s.size ≤ 1099511627776 ∧ ∀ x ∈ linesL s, x.size < 4294967281
theorem Ok.of_small {s : ByteArray} (h : s.size ≤ 1048576) : Ok s := ⟨by omega, fun x hx => by have := line_size s x hx; omega⟩
theorem Ok.size {s : ByteArray} (h : Ok s) : s.size ≤ 1125899906842624 := Nat.le_trans h.1 (by omega)
theorem lines_pos (s : ByteArray) : 0 < (linesL s).length := by
  have := barS_ne s
  unfold barS at this
  rcases Nat.eq_zero_or_pos (linesL s).length with h | h
  · rw [List.eq_nil_of_length_eq_zero h] at this
    exact absurd rfl this
  · exact h

theorem Lines_no (s : ByteArray) (hs : s.size ≤ 1125899906842624) (hk : kindN s.data.toList = 0) (w : World) :
    Calls Tryd.prog 16 #[.string s] w fun e w' => e = .returned (.tuple #[.slice none 0 0, .int .i64 60]) ∧ Below w.heap.size w w' := by
  have c1 := fun W => Kind_any s hs W
  rw [hk] at c1
  have C1 := Lib.hid c1
  clear c1 hk
  go_enter Tryd.func16, Tryd.ntmps16
  go_wp2_with fail
  refine (C1.out _).mono ?_
  rintro e w1 ⟨rfl, hb⟩
  have HB := Lib.hid hb
  clear hb
  go_wp2_with fail
  go_ret2
  exact ⟨rfl, HB.out⟩

set_option maxHeartbeats 2000000 in
theorem Lines_yes (s : ByteArray) (hOk : Ok s) (hk : kindN s.data.toList ≠ 0) (w : World) (hm : Mx w) :
    Calls Tryd.prog 16 #[.string s] w fun e w' => ∃ g cap, e = .returned (.tuple #[.slice (some ⟨g, 0, none⟩) (barS s).length cap, .int .i64 0]) ∧ Tx w' g (barS s) ∧ (barS s).length ≤ cap ∧ Below w.heap.size w w' := by
  obtain ⟨hs, hsz⟩ := hOk
  have c1 := fun W => Kind_any s (by omega) W
  have c2 := fun W => Plc.lines_any s (by omega) W
  have hle := Plc.linesL_le s
  have hne := lines_pos s
  have hbl : (barS s).length = (linesL s).length := by unfold barS; rw [List.length_map]
  rw [hbl]
  have hbs : barS s = (linesL s).map bareS := rfl
  rw [hbs]
  generalize linesL s = L at *
  generalize kindN s.data.toList = k at *
  have t1 : ((k : Int) == 0) = false := by rw [beq_eq_false_iff_ne]; omega
  have C1 := Lib.hid c1
  have C2 := Lib.hid c2
  have HSZ := Lib.hid hsz
  have HM := Lib.hid hm
  clear c1 c2 hsz hm hbl hbs
  go_enter Tryd.func16, Tryd.ntmps16
  go_wp2_with fail
  refine (C1.out _).mono ?_
  rintro e w1 ⟨rfl, hb⟩
  have HB1 := Lib.hid hb
  have HM1 := Lib.hid (HM.out.below hb (Nat.le_refl _))
  clear hb
  go_wp2_with fail
  refine (C2.out _).mono ?_
  rintro e w2 ⟨v, rfl, hown, hb⟩
  have HB2 := Lib.hid (below_trans HB1.out hb)
  have HM2 := Lib.hid (HM1.out.below hb (Nat.le_refl _))
  have hw1 : Hid (w1.heap.size ≤ w2.heap.size) := hb.size
  unfold Plc.Texts at hown
  obtain ⟨g, cap, rfl⟩ : ∃ g cap, v = .slice (some ⟨g, 0, none⟩) L.length cap := by
    rcases hown.2 with ⟨_, h0⟩ | ⟨g, cap, cur, rfl, _⟩
    · omega
    · exact ⟨g, cap, rfl⟩
  obtain ⟨B, hBe⟩ : ∃ B, w1.heap.size = B := ⟨_, rfl⟩
  have hBw : Hid (w.heap.size ≤ B) := by unfold Hid; rw [← hBe]; exact HB1.out.size
  rw [hBe] at hown hw1
  have HO := Lib.hid hown
  clear hown hb hBe
  obtain ⟨n, hn⟩ : ∃ n, L.length = n := ⟨_, rfl⟩
  rw [hn] at HO hne hle
  have HN := Lib.hid hn
  rw [hn]
  go_wp2_with fail
  go_loopw [14] (fun iv wr => ∃ (done r : List ByteArray) (k : Nat), iv = .int .i64 (k : Int) ∧ done.length = k ∧ k + r.length = n ∧ (∀ x ∈ r, x.size < 4294967281) ∧ done ++ r.map bareS = L.map bareS ∧
      wr.ownsRow B 9 1 (.slice (some ⟨g, 0, none⟩) n cap) n ((done ++ r).map Value.string) ∧ Below w.heap.size w wr ∧ Mx wr ∧ B ≤ wr.heap.size) (fun iv _ => n - (intOf iv).toNat)
  case atStart => exact ⟨[], L, 0, rfl, rfl, by rw [HN.out]; omega, HSZ.out, rfl, HO.out, HB2.out, HM2.out, hw1.out⟩
  case round =>
    obtain ⟨done, r, k, rfl, hk, hlen, hr, hq, hown, hbw, hmx, hbs⟩ := hrel
    have HQ := Lib.hid hq
    have HR := Lib.hid hr
    have HK := Lib.hid hk
    have HOWN := Lib.hid hown
    have HBW := Lib.hid hbw
    have HMX := Lib.hid hmx
    have HBS := Lib.hid hbs
    clear hq hr hown hbw hmx hk hbs
    cases r with
    | nil =>
      obtain rfl : k = n := by simpa using hlen
      clear hlen
      go_wp2_with fail
      go_ret2
      refine ⟨g, cap, by rw [HN.out]; rfl, ⟨(World.ownsRow.lt HOWN.out g rfl).2, fun j hj => ?_⟩, (by rw [HN.out]; exact own_cap HOWN.out), HBW.out⟩
      have hq := HQ.out
      have ho := HOWN.out
      rw [List.map_nil, List.append_nil] at hq
      rw [List.append_nil, hq] at ho
      rw [List.length_map, HN.out] at hj
      exact own_at ho j hj (by rw [List.length_map, HN.out]; exact hj)
    | cons x r =>
      have hx := HR.out x (by simp)
      rw [List.length_cons] at hlen
      have hkn : k < n := by omega
      have hcell : wr.cell? ⟨g, k, none⟩ = some (.string x) := by
        have hd := HK.out
        have hc := own_at HOWN.out k hkn (by simp; omega)
        rw [hc]
        simp [← hd]
      go_wp2_with fail
      refine (bare_any x hx _ HMX.out).mono ?_
      rintro e w3 ⟨rfl, hb⟩
      have HO3 := Lib.hid (own_below HOWN.out hb)
      have HB3 := Lib.hid (HBW.out.trans (hb.mono HBW.out.size))
      have HM3 := Lib.hid (HMX.out.below hb (Nat.le_refl _))
      have HS3 : Hid (B ≤ w3.heap.size) := Nat.le_trans HBS.out hb.size
      have hcell3 : w3.cell? ⟨g, k, none⟩ = some (.string x) := by
        have hd := HK.out
        have hc := own_at HO3.out k hkn (by simp; omega)
        rw [hc]
        simp [← hd]
      have hfz := World.ownsRow.frozenAt HO3.out k
      clear hb hcell
      go_wp2_with fail
      go_roundw
      case rel =>
        have hs := texts_set (a := w3) (y := bareS x) HO3.out (Below.refl _ _) HS3.out
        rw [HK.out] at hs
        have hq := HQ.out
        have hbb : Below w.heap.size w3 (w3.setCell ⟨g, k, none⟩ (.string (bareS x))) := hs.2.1.mono hBw.out
        refine ⟨done ++ [bareS x], r, k + 1, by go_num, by rw [List.length_append, HK.out]; rfl, by omega, fun y hy => HR.out y (by simp [hy]), by rw [List.append_assoc]; exact hq, hs.1, HB3.out.trans hbb, HM.out.below (HB3.out.trans hbb) (Nat.le_refl _), Nat.le_trans HS3.out hs.2.2⟩
      case measure => simp [intOf]; omega
end Go.Proofs.YtcbjcgbfdniieaaDoor.Not
