/-
  The contracts of place.Width and place.Of. Condition: the string has at most 2^50 bytes.
-/
import Derived.Test.YtkehchajgdepaaaGreatDoorZPlcLow
import Derived.Test.YtkehchajgdepaaaGreatDoorZPlcRef
import Derived.Test.YtkehchajgdepaaaGreatDoorZMthB
import Derived.Test.YtkehchajgdepaaaGreatDoorShf
import Derived.Lib.OthersKept
import Derived.LoopTactic
import Derived.Laws.RangeAny
import Derived.Deep.DrawnRows
import Derived.Deep.RegionWith
import Derived.Deep.QuietTactic
import Derived.BigQuiet
import Derived.OwnWalk
import Derived.Laws.OwnMore
import Derived.Deep.AppendLies
import Derived.Lib.SlTrimSet
import Derived.Deep.Draws
namespace Go.Proofs.YtkehchajgdepaaaGreatDoor.Plc
open Go.RowKit Gly
set_option linter.unusedSimpArgs false
attribute [local go_sem ↓] Go.wp_at_zero Go.wp_at_succ

theorem below_drewN {B : Nat} {a w : World} (h : Below B a w) (n : Nat) : Below B a (w.drewN n) := ⟨h.os, h.tape, h.output, h.size, h.block⟩
theorem iterPos_of {w : World} {k : Nat} {s : ByteArray} {n : Nat} (h : w.heap[k]? = some (.stringIter s n)) : w.iterPos k = n := by simp [World.iterPos, h]
theorem next_in {w wr : World} {B k : Nat} {s : ByteArray} {p : Nat} (hk : wr.heap[k]? = some (.stringIter s p)) (hB : Below B w wr) (hBk : B ≤ k) (hp : p < s.size) :
    ∃ W2, (∀ ty, (Instr.next (.pointer (some ⟨k, 0, none⟩)) true ty).run Tryz.prog wr = .ok (.tuple #[.bool true, .int .i64 (p : Int), .int .i32 (((Utf8.decode s p).1 : Nat) : Int)]) W2) ∧
      W2.heap[k]? = some (.stringIter s (p + (Utf8.decode s p).2)) ∧ Below B w W2 ∧ W2.heap.size = wr.heap.size ∧ (∀ j, j ≠ k → W2.heap[j]? = wr.heap[j]?) :=
  ⟨wr.iterAt k s (p + (Utf8.decode s p).2), fun ty => Lib.run_next_any_at wr k s p ty hk hp, Lib.iterAt_heap _ _ _ _ _ hk, Lib.below_iterAt hB hBk _ _, Lib.iterAt_size _ _ _ _, fun _ hj => Lib.iterAt_other _ _ _ _ _ hj⟩

/-- A block that holds a place. -/
def Spot (w : World) (g : Nat) (st : Int × Int) : Prop := w.heap[g]? = some (.cells #[.int .i64 st.1, .int .i64 st.2] 100 (0, 0))
theorem Spot.c0 {w : World} {g : Nat} {st : Int × Int} (h : Spot w g st) : w.cell? ⟨g, 0, none⟩ = some (.int .i64 st.1) := by rw [cell_of_row w g 0 _ _ _ h]; rfl
theorem Spot.c1 {w : World} {g : Nat} {st : Int × Int} (h : Spot w g st) : w.cell? ⟨g, 1, none⟩ = some (.int .i64 st.2) := by rw [cell_of_row w g 1 _ _ _ h]; rfl
theorem Spot.free {w : World} {g : Nat} {st : Int × Int} (h : Spot w g st) (i : Nat) : w.frozen? ⟨g, i, none⟩ = false := by unfold Spot at h; simp [World.frozen?, h]
theorem Spot.lt {w : World} {g : Nat} {st : Int × Int} (h : Spot w g st) : g < w.heap.size := lt_of_block h
theorem Spot.below {B : Nat} {w w' : World} {g : Nat} {st : Int × Int} (h : Spot w g st) (hb : Below B w w') (hg : g < B) : Spot w' g st := (hb.block g hg).trans h
theorem Spot.set {w : World} {g : Nat} {st st' : Int × Int} (h : Spot w g st) : Spot ((w.setCell ⟨g, 0, none⟩ (.int .i64 st'.1)).setCell ⟨g, 1, none⟩ (.int .i64 st'.2)) g st' := by
  unfold Spot at h ⊢
  simp [World.setCell, Array.getElem?_modify, h]
theorem two_other {w : World} {g j : Nat} {u v : Value} (hj : j ≠ g) : ((w.setCell ⟨g, 0, none⟩ u).setCell ⟨g, 1, none⟩ v).heap[j]? = w.heap[j]? := by
  rw [Below.heap_setCell _ _ _ _ hj, Below.heap_setCell _ _ _ _ hj]

theorem start_spot (w1 : World) (s : ByteArray) (st : Int × Int) : Spot ((w1.alloc (.cells #[.int .i64 st.1, .int .i64 st.2] 100)).iter s 0) w1.heap.size st :=
  (Below.heap_alloc _ _ _ (by simp)).trans (heap_alloc_new w1 _)
theorem start_iter (w1 : World) (s : ByteArray) (o : Obj) : ((w1.alloc o).iter s 0).heap[w1.heap.size + 1]? = some (.stringIter s 0) := by
  have := World.iter_heap (w1.alloc o) s 0
  simpa using this
theorem Spot.drew {w : World} {g : Nat} {st : Int × Int} (h : Spot w g st) : Spot w.drew g st := h

theorem after_past {w W2 w2 : World} {g : Nat} {st : Int × Int} (st' : Int × Int) (sp : Spot w2 g st) (hb : Below w.heap.size w W2) (h3 : Below W2.drew.heap.size W2.drew w2) (hg : w.heap.size ≤ g) :
    Spot ((w2.setCell ⟨g, 0, none⟩ (.int .i64 st'.1)).setCell ⟨g, 1, none⟩ (.int .i64 st'.2)) g st' ∧ (∀ j, j ≠ g → j < W2.heap.size → ((w2.setCell ⟨g, 0, none⟩ (.int .i64 st'.1)).setCell ⟨g, 1, none⟩ (.int .i64 st'.2)).heap[j]? = W2.heap[j]?) ∧
      Below w.heap.size w ((w2.setCell ⟨g, 0, none⟩ (.int .i64 st'.1)).setCell ⟨g, 1, none⟩ (.int .i64 st'.2)) := by
  refine ⟨sp.set, fun j hj hl => ?_, ?_⟩
  · rw [two_other hj]
    exact h3.block _ hl
  · have h4 : Below w.heap.size w w2 := hb.trans (Below.mono (w := W2) ⟨h3.os, h3.tape, h3.output, h3.size, h3.block⟩ hb.size)
    exact (h4.setCell hg _).setCell hg _

theorem past_at (s : ByteArray) (p : Nat) (st : Int × Int) (hs : s.size ≤ 1125899906842624) (hp : p < s.size) (l1 : 1 ≤ st.1) (l2 : st.1 ≤ 1152921504606846976) (c1 : 1 ≤ st.2) (c2 : st.2 ≤ 1152921504606846976) (w : World) :
    Calls Tryz.prog 97 #[.agg #[.int .i64 st.1, .int .i64 st.2], .string (s.extract p s.size)] w fun e w' => e = .returned (.agg #[.int .i64 (adv s p st).1, .int .i64 (adv s p st).2]) ∧ Below w.heap.size w w' := by
  have h := past_any st.1 st.2 (s.extract p s.size) (by rw [size_tail]; omega) (by rw [size_tail]; unfold maxLen; omega) l1 l2 c1 c2 w
  have e : adv (s.extract p s.size) 0 (st.1, st.2) = adv s p st := by
    unfold adv
    rw [nlAt_tail, bt_tail, Nat.add_zero]
  rw [e] at h
  exact h

set_option maxHeartbeats 1000000 in
theorem width_any (s : ByteArray) (col : Int) (hs : s.size ≤ 1125899906842624) (w : World) :
    Calls Tryz.prog 81 #[.string s, .int .i64 col] w fun e w' => e = .returned (.tuple #[.int .i64 (widthI s col).1, .int .i64 (widthI s col).2]) ∧ Below w.heap.size w w' := by
  by_cases h1 : col < 1
  · have hr : Hid (widthI s col = (0, 1)) := by unfold Hid widthI; rw [if_pos (Or.inl h1)]
    go_enter Tryz.func81, Tryz.ntmps81
    go_wp2
    go_ret2
    exact ⟨by rw [hr.out]; rfl, Below.refl _ _⟩
  by_cases h2 : 2147483648 < col
  · have hr : Hid (widthI s col = (0, 1)) := by unfold Hid widthI; rw [if_pos (Or.inr h2)]
    go_enter Tryz.func81, Tryz.ntmps81
    go_wp2
    go_ret2
    exact ⟨by rw [hr.out]; rfl, Below.refl _ _⟩
  have hr : Hid (widthI s col = ((scan s s.size s.size 0 (1, col)).2, 0)) := by unfold Hid widthI; rw [if_neg (by omega)]; rfl
  have b1 : decide (col < 1) = false := decide_eq_false h1
  have b2 : decide (2147483648 < col) = false := decide_eq_false h2
  go_enter Tryz.func81, Tryz.ntmps81
  go_wp2_with fail
  refine (start_any col _).mono ?_
  rintro e w1 ⟨rfl, hb1⟩
  have HB1 := Lib.hid hb1
  clear hb1
  go_wp2_with fail
  go_loopw [7] (fun _ wr => ∃ (p f : Nat) (st : Int × Int), Spot wr w1.heap.size st ∧ wr.heap[w1.heap.size + 1]? = some (.stringIter s p) ∧ Below w.heap.size w wr ∧ scan s s.size f p st = scan s s.size s.size 0 (1, col) ∧ p ≤ s.size ∧ s.size ≤ p + f ∧ 1 ≤ st.1 ∧ st.1 ≤ 1 + (p : Int) ∧ 1 ≤ st.2 ∧ st.2 ≤ 2147483648 + 8 * (p : Int)) (fun _ wr => s.size - wr.iterPos (w1.heap.size + 1))
  case atStart =>
    exact ⟨0, s.size, (1, col), start_spot w1 s (1, col), start_iter w1 s _, HB1.out.trans ((((Below.refl _ _).alloc (Nat.le_refl _) _).alloc (by simp) _).mono HB1.out.size), rfl, by omega, by omega, by dsimp only; omega, by dsimp only; omega, by dsimp only; omega, by dsimp only; omega⟩
  case round =>
    obtain ⟨p, f, st, hsp, hit, hbw, hq, hp0, hf, k1, k2, k3, k4⟩ := hrel
    have HQ := Lib.hid hq
    have H1 := Lib.hid h1
    have H2 := Lib.hid h2
    have HIT := Lib.hid hit
    have HSP := Lib.hid hsp
    have hBk := HB1.out.size
    clear hq h1 h2 hit hsp
    by_cases hp : p < s.size
    · have hw := width_ge s p
      have hx := width_fits s p hp
      obtain ⟨W2, hnx, it2, hb2, hz2, ho2⟩ := next_in HIT.out hbw (by omega) hp
      have IT2 := Lib.hid it2
      have HB2 := Lib.hid hb2
      have HO2 := Lib.hid ho2
      have sp2 : Hid (Spot W2 w1.heap.size st) := (ho2 _ (by omega)).trans HSP.out
      clear it2 hb2 ho2 hbw
      have x0 := sp2.out.c0
      have x1 := sp2.out.c1
      have i0 : (0 : Int) ≤ (p : Int) := by omega
      have i1 : (p : Int) ≤ (s.size : Int) := by omega
      go_wp2_with fail
      go_region_with (first | (go_at_call 97; refine (past_at s p st hs hp (by omega) (by omega) (by omega) (by omega) _).mono ?_; rintro e w2 ⟨rfl, hb3⟩; have sp3 : Hid (Spot w2 w1.heap.size st) := sp2.out.drew.below hb3 sp2.out.lt; have HB3 := Lib.hid hb3; clear hb3; have y0 := sp3.out.c0; have y1 := sp3.out.c1; have y2 := sp3.out.free 0; have y3 := sp3.out.free 1))
      all_goals go_wp2
      obtain ⟨q1, q2, q3⟩ := after_past (adv s p st) sp3.out HB2.out HB3.out hBk
      have Q2 := Lib.hid ((q2 _ (by omega) (lt_of_block IT2.out)).trans IT2.out)
      clear q2
      go_roundw
      case rel =>
        have hbd := adv_bd s p st _ _ ⟨k1, k2⟩ ⟨k3, k4⟩
        exact ⟨_, f - 1, _, q1, Q2.out, q3, by rw [← HQ.out, scan_go s _ f p st ⟨hp, hx⟩ hf], hx, by omega, hbd.1.1, by have := hbd.1.2; omega, hbd.2.1, by have := hbd.2.2; omega⟩
      case measure => rw [iterPos_of Q2.out, iterPos_of HIT.out]; omega
    · have hnx : ∀ ty, (Instr.next (.pointer (some ⟨w1.heap.size + 1, 0, none⟩)) true ty).run Tryz.prog wr = .ok (.tuple #[.bool false]) wr := fun ty => Lib.run_next_end_at (P := Tryz.prog) wr (w1.heap.size + 1) s p ty HIT.out hp
      have x0 := HSP.out.c0
      have x1 := HSP.out.c1
      go_wp2
      go_ret2
      refine ⟨?_, hbw⟩
      rw [hr.out, ← HQ.out, scan_stop _ _ _ _ _ (by omega)]
      rfl

theorem start_two (w1 : World) (s : ByteArray) (st : Int × Int) : Spot (((w1.alloc (.cells #[.int .i64 st.1, .int .i64 st.2] 100)).alloc (.cells #[.int .i64 st.1, .int .i64 st.2] 100)).iter s 0) w1.heap.size st ∧
    Spot (((w1.alloc (.cells #[.int .i64 st.1, .int .i64 st.2] 100)).alloc (.cells #[.int .i64 st.1, .int .i64 st.2] 100)).iter s 0) (w1.heap.size + 1) st ∧
    (((w1.alloc (.cells #[.int .i64 st.1, .int .i64 st.2] 100)).alloc (.cells #[.int .i64 st.1, .int .i64 st.2] 100)).iter s 0).heap[w1.heap.size + 2]? = some (.stringIter s 0) := by
  refine ⟨?_, ?_, ?_⟩
  · exact (Below.heap_alloc _ _ _ (by simp; omega)).trans ((Below.heap_alloc _ _ _ (by simp)).trans (heap_alloc_new w1 _))
  · refine (Below.heap_alloc _ _ _ (by simp)).trans ?_
    have := heap_alloc_new (w1.alloc (.cells #[.int .i64 st.1, .int .i64 st.2] 100)) (.cells #[.int .i64 st.1, .int .i64 st.2] 100)
    simpa using this
  · have := World.iter_heap ((w1.alloc (.cells #[.int .i64 st.1, .int .i64 st.2] 100)).alloc (.cells #[.int .i64 st.1, .int .i64 st.2] 100)) s 0
    simpa using this

set_option maxHeartbeats 1000000 in
theorem of_any (s : ByteArray) (i : Int) (hs : s.size ≤ 1125899906842624) (w : World) :
    Calls Tryz.prog 80 #[.string s, .int .i64 i] w fun e w' => e = .returned (.tuple #[.int .i64 (ofI s i).1, .int .i64 (ofI s i).2.1, .int .i64 (ofI s i).2.2]) ∧ Below w.heap.size w w' := by
  by_cases h1 : i < 0
  · have hr : Hid (ofI s i = (0, 0, 1)) := by unfold Hid ofI; rw [if_pos (Or.inl h1)]
    go_enter Tryz.func80, Tryz.ntmps80
    go_wp2
    go_ret3
    exact ⟨by rw [hr.out]; rfl, Below.refl _ _⟩
  by_cases h2 : (s.size : Int) < i
  · have hr : Hid (ofI s i = (0, 0, 1)) := by unfold Hid ofI; rw [if_pos (Or.inr h2)]
    go_enter Tryz.func80, Tryz.ntmps80
    go_wp2
    go_ret3
    exact ⟨by rw [hr.out]; rfl, Below.refl _ _⟩
  obtain ⟨a, rfl⟩ := Int.eq_ofNat_of_zero_le (a := i) (by omega)
  have ha : a ≤ s.size := by omega
  have hr : Hid (ofI s (a : Int) = ((scan s a s.size 0 (1, 1)).1, (scan s a s.size 0 (1, 1)).2, 0)) := by unfold Hid ofI; rw [if_neg (by omega), Int.toNat_natCast]; rfl
  clear h1 h2
  have b1 : decide ((a : Int) < 0) = false := decide_eq_false (by omega)
  have b2 : decide (s.size < a) = false := decide_eq_false (by omega)
  go_enter Tryz.func80, Tryz.ntmps80
  go_wp2_with fail
  refine (start_any 1 _).mono ?_
  rintro e w1 ⟨rfl, hb1⟩
  have HB1 := Lib.hid hb1
  clear hb1
  go_wp2_with fail
  go_loopw [9] (fun _ wr => ∃ (p f : Nat) (st fo : Int × Int), Spot wr w1.heap.size st ∧ Spot wr (w1.heap.size + 1) fo ∧ wr.heap[w1.heap.size + 2]? = some (.stringIter s p) ∧ Below w.heap.size w wr ∧ (p ≤ a → scan s a f p st = scan s a s.size 0 (1, 1)) ∧ (a < p → fo = scan s a s.size 0 (1, 1)) ∧ p ≤ s.size ∧ s.size ≤ p + f ∧ 1 ≤ st.1 ∧ st.1 ≤ 1 + (p : Int) ∧ 1 ≤ st.2 ∧ st.2 ≤ 1 + 8 * (p : Int)) (fun _ wr => s.size - wr.iterPos (w1.heap.size + 2))
  case atStart =>
    obtain ⟨q1, q2, q3⟩ := start_two w1 s (1, 1)
    exact ⟨0, s.size, (1, 1), (1, 1), q1, q2, q3, HB1.out.trans (((((Below.refl _ _).alloc (Nat.le_refl _) _).alloc (by simp) _).alloc (by simp; omega) _).mono HB1.out.size), fun _ => rfl, fun h => absurd h (by omega), by omega, by omega, by dsimp only; omega, by dsimp only; omega, by dsimp only; omega, by dsimp only; omega⟩
  case round =>
    obtain ⟨p, f, st, fo, hsp, hfo, hit, hbw, hq, hq2, hp0, hf, k1, k2, k3, k4⟩ := hrel
    have HQ := Lib.hid hq
    have HQ2 := Lib.hid hq2
    have HIT := Lib.hid hit
    have HSP := Lib.hid hsp
    have HFO := Lib.hid hfo
    have HBW := Lib.hid hbw
    have hBk := HB1.out.size
    clear hq hit hsp hfo hbw hq2
    by_cases hp : p < s.size
    · have hw := width_ge s p
      have hx := width_fits s p hp
      obtain ⟨W2, hnx, it2, hb2, hz2, ho2⟩ := next_in HIT.out HBW.out (by omega) hp
      have IT2 := Lib.hid it2
      have HB2 := Lib.hid hb2
      have sp2 : Hid (Spot W2 w1.heap.size st) := (ho2 _ (by omega)).trans HSP.out
      have fo2 : Hid (Spot W2 (w1.heap.size + 1) fo) := (ho2 _ (by omega)).trans HFO.out
      clear it2 hb2 ho2
      have x0 := sp2.out.c0
      have x1 := sp2.out.c1
      have z0 := fo2.out.c0
      have z1 := fo2.out.c1
      have z2 := fo2.out.free 0
      have z3 := fo2.out.free 1
      by_cases ho : a < p
      · have hne : ¬ a = s.size := by omega
        go_wp2_with fail
        go_quiet (fail)
        go_wp2_with fail
        go_ret3
        refine ⟨?_, below_drewN HB2.out _⟩
        rw [hr.out, ← HQ2.out ho]
        rfl
      · go_wp2_with fail
        have t1 : Hid (Spot ((W2.setCell ⟨w1.heap.size + 1, 0, none⟩ (.int .i64 st.1)).setCell ⟨w1.heap.size + 1, 1, none⟩ (.int .i64 st.2)) w1.heap.size st) := (two_other (by omega)).trans sp2.out
        have t2 : Hid (Spot ((W2.setCell ⟨w1.heap.size + 1, 0, none⟩ (.int .i64 st.1)).setCell ⟨w1.heap.size + 1, 1, none⟩ (.int .i64 st.2)) (w1.heap.size + 1) st) := fo2.out.set
        have t3 : Hid (((W2.setCell ⟨w1.heap.size + 1, 0, none⟩ (.int .i64 st.1)).setCell ⟨w1.heap.size + 1, 1, none⟩ (.int .i64 st.2)).heap[w1.heap.size + 2]? = some (.stringIter s (p + (Utf8.decode s p).2))) := (two_other (by omega)).trans IT2.out
        have t4 : Hid (Below w.heap.size w ((W2.setCell ⟨w1.heap.size + 1, 0, none⟩ (.int .i64 st.1)).setCell ⟨w1.heap.size + 1, 1, none⟩ (.int .i64 st.2))) := (HB2.out.setCell (by dsimp only; omega) _).setCell (by dsimp only; omega) _
        generalize (W2.setCell ⟨w1.heap.size + 1, 0, none⟩ (.int .i64 st.1)).setCell ⟨w1.heap.size + 1, 1, none⟩ (.int .i64 st.2) = W3 at *
        clear x0 x1 z0 z1 z2 z3 sp2 fo2 IT2 HB2 hz2
        have x0 := t1.out.c0
        have x1 := t1.out.c1
        have i0 : (0 : Int) ≤ (p : Int) := by omega
        have i1 : (p : Int) ≤ (s.size : Int) := by omega
        go_region_with (first | (go_at_call 97; refine (past_at s p st hs hp (by omega) (by omega) (by omega) (by omega) _).mono ?_; rintro e w2 ⟨rfl, hb3⟩; have sp3 : Hid (Spot w2 w1.heap.size st) := t1.out.drew.below hb3 t1.out.lt; have HB3 := Lib.hid hb3; clear hb3; have y0 := sp3.out.c0; have y1 := sp3.out.c1; have y2 := sp3.out.free 0; have y3 := sp3.out.free 1))
        all_goals go_wp2
        obtain ⟨q1, q2, q3⟩ := after_past (adv s p st) sp3.out t4.out HB3.out hBk
        have Q1 := Lib.hid ((q2 _ (by omega) (lt_of_block t2.out)).trans t2.out)
        have Q2 := Lib.hid ((q2 _ (by omega) (lt_of_block t3.out)).trans t3.out)
        clear q2
        go_roundw
        case rel =>
          have hbd := adv_bd s p st _ _ ⟨k1, k2⟩ ⟨k3, k4⟩
          refine ⟨_, f - 1, _, st, q1, Q1.out, Q2.out, q3, ?_, ?_, hx, by omega, hbd.1.1, by have := hbd.1.2; omega, hbd.2.1, by have := hbd.2.2; omega⟩
          · intro hle
            rw [← HQ.out (by omega), scan_go s _ f p st ⟨hp, hle⟩ hf]
          · intro hlt
            rw [← HQ.out (by omega), scan_stop s _ f p st (by omega)]
        case measure => rw [iterPos_of Q2.out, iterPos_of HIT.out]; omega
    · have hnx : ∀ ty, (Instr.next (.pointer (some ⟨w1.heap.size + 2, 0, none⟩)) true ty).run Tryz.prog wr = .ok (.tuple #[.bool false]) wr := fun ty => Lib.run_next_end_at (P := Tryz.prog) wr (w1.heap.size + 2) s p ty HIT.out hp
      have x0 := HSP.out.c0
      have x1 := HSP.out.c1
      have z0 := HFO.out.c0
      have z1 := HFO.out.c1
      have z2 := HFO.out.free 0
      have z3 := HFO.out.free 1
      by_cases he : a = s.size
      · have he2 := Lib.hid he
        subst he
        go_wp2_with fail
        have t2 : Hid (Spot ((wr.setCell ⟨w1.heap.size + 1, 0, none⟩ (.int .i64 st.1)).setCell ⟨w1.heap.size + 1, 1, none⟩ (.int .i64 st.2)) (w1.heap.size + 1) st) := HFO.out.set
        have t4 : Hid (Below w.heap.size w ((wr.setCell ⟨w1.heap.size + 1, 0, none⟩ (.int .i64 st.1)).setCell ⟨w1.heap.size + 1, 1, none⟩ (.int .i64 st.2))) := (HBW.out.setCell (by dsimp only; omega) _).setCell (by dsimp only; omega) _
        generalize (wr.setCell ⟨w1.heap.size + 1, 0, none⟩ (.int .i64 st.1)).setCell ⟨w1.heap.size + 1, 1, none⟩ (.int .i64 st.2) = W3 at *
        clear z0 z1
        have z0 := t2.out.c0
        have z1 := t2.out.c1
        go_quiet (fail)
        go_wp2_with fail
        go_ret3
        refine ⟨?_, below_drewN t4.out _⟩
        rw [hr.out, ← HQ.out (by omega), scan_stop _ _ _ _ _ (by omega)]
        rfl
      · go_wp2_with fail
        go_quiet (fail)
        go_wp2_with fail
        go_ret3
        refine ⟨?_, below_drewN HBW.out _⟩
        rw [hr.out, ← HQ2.out (by omega)]
        rfl
end Go.Proofs.YtkehchajgdepaaaGreatDoor.Plc
/-
  The contracts of place.Lines, of the document's own Lines, and of Same at equal lists. Condition: the string has at most 2^40 bytes.
-/
namespace Go.Proofs.YtkehchajgdepaaaGreatDoor.Plc
open Go.RowKit Gly
set_option linter.unusedSimpArgs false

theorem infoStr : (Tryz.prog.info? 9).map (fun i => (i.zero, i.size, i.bytes)) = some (some (.string ⟨#[]⟩), 1, 16) := by kernel_rfl
theorem own_ne_iter {w : World} {base k : Nat} {e : TypeId} {size n : Nat} {v : Value} {xs : List Value} {s : ByteArray} {p : Nat} (h : w.ownsRow base e size v n xs) (hk : w.heap[k]? = some (.stringIter s p)) : v.ownBlock ≠ some k := by
  rcases h.2 with ⟨rfl, _⟩ | ⟨g, cap, cur, rfl, _, hg, _⟩
  · simp [Value.ownBlock]
  · intro he
    have : g = k := by simpa [Value.ownBlock] using he
    subst this
    rw [hk] at hg
    cases hg
theorem own_iter {w w' : World} {base k : Nat} {e : TypeId} {size n : Nat} {v : Value} {xs : List Value} {s : ByteArray} {p : Nat} (h : w.ownsRow base e size v n xs) (hk : w.heap[k]? = some (.stringIter s p))
    (ho : ∀ j, j ≠ k → w'.heap[j]? = w.heap[j]?) : w'.ownsRow base e size v n xs := by
  have hne := own_ne_iter h hk
  refine ⟨h.1, ?_⟩
  rcases h.2 with hn | ⟨g, cap, cur, rfl, hb, hg, rest⟩
  · exact .inl hn
  · refine .inr ⟨g, cap, cur, rfl, hb, ?_, rest⟩
    rw [ho g (fun e => hne (by rw [e]; rfl))]
    exact hg

theorem nl_is (s : ByteArray) (p k : Nat) (hs : s.size ≤ 1125899906842624) (hp : p < s.size) (h : nlAt s p = k) :
    Hid (∀ w : World, Calls Tryz.prog 115 #[.string (s.extract p s.size)] w fun e w' => e = .returned (.int .i64 (k : Int)) ∧ w = w') := by
  intro w
  have := newline_any (s.extract p s.size) (by rw [size_tail]; omega) (by rw [size_tail]; unfold maxLen; omega) w
  rw [nlAt_tail, h] at this
  exact this

/-- A list of texts in memory of the call's own. -/
def Texts (w : World) (base : Nat) (v : Value) (L : List ByteArray) : Prop := w.ownsRow base 9 1 v L.length (L.map Value.string)
theorem Texts.push {w : World} {base : Nat} {v : Value} {L : List ByteArray} {x : ByteArray} (h : w.ownsRow base 9 1 v (L.length + 1) (L.map Value.string ++ [.string x])) : Texts w base v (L ++ [x]) := by
  unfold Texts
  rw [List.length_append, List.map_append]
  exact h

theorem after_push {w W2 w3 : World} {B : Nat} {v v' : Value} {L : List ByteArray} {x : ByteArray} {o : Obj} (own2 : Texts W2 B v L) (hb2 : Below B w W2) (hBw : B ≤ W2.heap.size)
    (hown' : w3.ownsRow B 9 1 v' (L.length + 1) (L.map Value.string ++ [.string x])) (hgrow : (W2.alloc o).grownBy w3 v.ownBlock) : Texts w3 B v' (L ++ [x]) ∧ Below B w w3 := by
  refine ⟨Texts.push hown', (hb2.alloc hBw o).grown hgrow ?_ (fun k hk => (own2.lt k hk).1)⟩
  rw [World.size_alloc]
  omega
theorem push_iter {W2 w3 : World} {k : Nat} {e : TypeId} {base size n : Nat} {xs : List Value} {v : Value} {o : Obj} {s : ByteArray} {p : Nat} (own2 : W2.ownsRow base e size v n xs) (it : W2.heap[k]? = some (.stringIter s p)) (hgrow : (W2.alloc o).grownBy w3 v.ownBlock) : w3.heap[k]? = some (.stringIter s p) := by
  have hk := lt_of_block it
  rw [hgrow.block k (by rw [World.size_alloc]; omega) (fun e => own_ne_iter own2 it e.symm), Below.heap_alloc _ _ _ hk]
  exact it

end Go.Proofs.YtkehchajgdepaaaGreatDoor.Plc
/-
  The contracts of place.Trim, of the document's own Trim and Lines, and of Same at one list twice; and that the sample which every statement of this layer asks first ('awake') is answered true. Condition: lengths that an int holds; at most 2^40 bytes where lines are made.
-/
namespace Go.Proofs.YtkehchajgdepaaaGreatDoor.Plc
open Go.RowKit Gly
set_option linter.unusedSimpArgs false

theorem bytes_ext {a b : ByteArray} (h : a.data.toList = b.data.toList) : a = b := by
  cases a; cases b; simp at h; subst h; rfl

def isBlank (b : Nat) : Prop := b = 32 ∨ (9 ≤ b ∧ b ≤ 13)
instance (b : Nat) : Decidable (isBlank b) := by unfold isBlank; exact inferInstance
/-- Where the blanks at the end of a head begin. -/
def trimEnd (s : ByteArray) : Nat → Nat
  | 0 => 0
  | n + 1 => if isBlank (bt s n) then trimEnd s n else n + 1
theorem trimEnd_le (s : ByteArray) : ∀ n, trimEnd s n ≤ n
  | 0 => Nat.le_refl _
  | n + 1 => by
    have := trimEnd_le s n
    rw [trimEnd]
    split <;> omega
theorem trimEnd_blank (s : ByteArray) : ∀ (n j : Nat), trimEnd s n ≤ j → j < n → isBlank (bt s j)
  | 0, j, _, h => by omega
  | n + 1, j, h1, h2 => by
    rw [trimEnd] at h1
    split at h1
    · by_cases hj : j < n
      · exact trimEnd_blank s n j h1 hj
      · obtain rfl : j = n := by omega
        assumption
    · omega
theorem trimEnd_last (s : ByteArray) : ∀ (n : Nat), 0 < trimEnd s n → ¬ isBlank (bt s (trimEnd s n - 1))
  | 0, h => by simp [trimEnd] at h
  | n + 1, h => by
    rw [trimEnd] at h ⊢
    split
    · rename_i hb
      rw [if_pos hb] at h
      exact trimEnd_last s n h
    · assumption
theorem blank_in (b : UInt8) : ([9, 10, 11, 12, 13, 32] : List UInt8).contains b = decide (isBlank b.toNat) := by
  have : ∀ k : Fin 256, ([9, 10, 11, 12, 13, 32] : List UInt8).contains (UInt8.ofNat k.val) = decide (isBlank (UInt8.ofNat k.val).toNat) := by decide +kernel
  have h := this ⟨b.toNat, b.toNat_lt⟩
  simpa using h
/-- Trim's answer. -/
def trimS (s : ByteArray) : ByteArray := s.extract 0 (trimEnd s s.size)
theorem trimS_data (s : ByteArray) : (⟨(Lib.trimRightS s.data.toList [9, 10, 11, 12, 13, 32]).toArray⟩ : ByteArray) = trimS s := by
  apply bytes_ext
  have hle := trimEnd_le s s.size
  have get : ∀ (j : Nat) b, s.data.toList[j]? = some b → j < s.size ∧ bt s j = b.toNat := by
    intro j b hb
    have hj : j < s.data.toList.length := by
      rcases Nat.lt_or_ge j s.data.toList.length with h | h
      · exact h
      · rw [List.getElem?_eq_none h] at hb; cases hb
    refine ⟨by rw [Lib.size_eq]; exact hj, ?_⟩
    rw [bt_getD, List.getD_eq_getElem?_getD, hb]
    rfl
  rw [Lib.trimRightS_take s.data.toList _ (trimEnd s s.size) (by rw [← Lib.size_eq]; exact hle)
    (fun j b h1 hb => by
      obtain ⟨h2, h3⟩ := get j b hb
      rw [blank_in, ← h3]
      exact decide_eq_true (trimEnd_blank s s.size j h1 h2))
    (fun b h0 hb => by
      obtain ⟨h2, h3⟩ := get _ b hb
      rw [blank_in, ← h3]
      exact decide_eq_false (trimEnd_last s s.size h0))]
  unfold trimS
  rw [Lib.extract_data, List.drop_zero, Nat.sub_zero]
theorem trimS_size (s : ByteArray) : (trimS s).size ≤ s.size := by
  unfold trimS
  rw [Lib.size_eq, Lib.extract_data, List.length_take, List.length_drop, ← Lib.size_eq]
  omega

end Go.Proofs.YtkehchajgdepaaaGreatDoor.Plc
