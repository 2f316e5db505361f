/-
  The contracts of the small functions of package place: newline, start, afterTab, past. Conditions: lengths and columns that are far from the greatest int.
-/
import Derived.Test.YtmgclgojmckfhaaGreatDoorZMthB
import Derived.Test.YtmgclgojmckfhaaGreatDoorRows
import Derived.Test.YtmgclgojmckfhaaGreatDoorZGlyB
import Derived.Test.YtmgclgojmckfhaaGreatDoorShf
import Derived.WalkKit
import Derived.RegionTactic
import Derived.BigQuiet
import Derived.Deep.RegionHeld3
import Derived.WalkLawsBesides
import Derived.WalkSpells
import Derived.Outline
import Derived.Lib.Hide
import Derived.Handy
import Derived.Lib.OthersKept
import Derived.LoopTactic
import Derived.Laws.RangeAny
import Derived.Deep.DrawnRows
import Derived.Deep.RegionWith
import Derived.Deep.QuietTactic
import Derived.OwnWalk
import Derived.Laws.OwnMore
import Derived.Deep.AppendLies
import Derived.Lib.SlTrimSet
import Derived.Deep.Draws
namespace Go.Proofs.YtmgclgojmckfhaaGreatDoor.Plc
open Go.RowKit Gly
set_option linter.unusedSimpArgs false

theorem newline_any (r : ByteArray) (h : 0 < r.size) (_hs : r.size ≤ maxLen) (w : World) :
    Calls Tryz.prog 93 #[.string r] w fun e w' => e = .returned (.int .i64 ((nlAt r 0 : Nat) : Int)) ∧ w = w' := by
  have hb := bt_in r 0 h
  have hlt := bt_lt r 0
  by_cases c10 : bt r 0 = 10
  · have hr : Hid (nlAt r 0 = 1) := by unfold Hid nlAt; rw [if_neg (by omega), if_pos (Or.inl c10)]
    have x : r[0].toNat = 10 := by omega
    clear hb c10 hlt
    go_enter Tryz.func93, Tryz.ntmps93
    go_wp2
    go_ret
    exact ⟨by rw [hr.out]; rfl, rfl⟩
  by_cases c12 : bt r 0 = 12
  · have hr : Hid (nlAt r 0 = 1) := by unfold Hid nlAt; rw [if_neg (by omega), if_pos (Or.inr c12)]
    have x : r[0].toNat = 12 := by omega
    clear hb c10 c12 hlt
    go_enter Tryz.func93, Tryz.ntmps93
    go_wp2
    go_ret
    exact ⟨by rw [hr.out]; rfl, rfl⟩
  by_cases c13 : bt r 0 = 13
  · have x : r[0].toNat = 13 := by omega
    by_cases hz : 1 < r.size
    · have hb1 := bt_in r 1 hz
      by_cases cn : bt r 1 = 10
      · have hr : Hid (nlAt r 0 = 2) := by unfold Hid nlAt; rw [if_neg (by omega), if_neg (by omega), if_pos c13, if_pos ⟨by omega, cn⟩]
        have y : r[1].toNat = 10 := by omega
        clear hb c10 c12 c13 cn hb1 hlt
        go_enter Tryz.func93, Tryz.ntmps93
        go_wp2
        go_ret
        exact ⟨by rw [hr.out]; rfl, rfl⟩
      · have hr : Hid (nlAt r 0 = 1) := by unfold Hid nlAt; rw [if_neg (by omega), if_neg (by omega), if_pos c13, if_neg (fun q => cn q.2)]
        have y : ¬ r[1].toNat = 10 := by omega
        clear hb c10 c12 c13 cn hb1 hlt
        go_enter Tryz.func93, Tryz.ntmps93
        go_wp2
        go_ret
        exact ⟨by rw [hr.out]; rfl, rfl⟩
    · have hr : Hid (nlAt r 0 = 1) := by unfold Hid nlAt; rw [if_neg (by omega), if_neg (by omega), if_pos c13, if_neg (fun q => by omega)]
      clear hb c10 c12 c13 hlt
      go_enter Tryz.func93, Tryz.ntmps93
      go_wp2
      go_ret
      exact ⟨by rw [hr.out]; rfl, rfl⟩
  · have hr : Hid (nlAt r 0 = 0) := by unfold Hid nlAt; rw [if_neg (by omega), if_neg (by omega), if_neg c13]
    have x1 : ¬ r[0].toNat = 10 := by omega
    have x2 : ¬ r[0].toNat = 12 := by omega
    have x3 : ¬ r[0].toNat = 13 := by omega
    clear hb c10 c12 c13 hlt
    go_enter Tryz.func93, Tryz.ntmps93
    go_wp2
    go_ret
    exact ⟨by rw [hr.out]; rfl, rfl⟩

theorem start_any (c : Int) (w : World) :
    Calls Tryz.prog 72 #[.int .i64 c] w fun e w' => e = .returned (.agg #[.int .i64 1, .int .i64 c]) ∧ Below w.heap.size w w' := by
  go_enter Tryz.func72, Tryz.ntmps72
  go_wp2
  go_returns
  exact ⟨rfl, (Below.refl _ _).alloc (Nat.le_refl _) _⟩

theorem afterTab_any (c : Int) (h1 : 1 ≤ c) (h2 : c ≤ 1152921504606846976) (w : World) :
    Calls Tryz.prog 94 #[.int .i64 c] w fun e w' => e = .returned (.int .i64 (tabI c)) ∧ w = w' := by
  have hq : (c - 1).tdiv 8 = (c - 1) / 8 := Int.tdiv_eq_ediv_of_nonneg (by omega)
  have hd : Hid (tabI c = (c - 1) / 8 * 8 + 9) := rfl
  have hb : 0 ≤ (c - 1) / 8 := by omega
  have hb2 : (c - 1) / 8 ≤ 1152921504606846976 := by omega
  go_enter Tryz.func94, Tryz.ntmps94
  go_wp2
  go_ret
  refine ⟨?_, rfl⟩
  rw [hd.out]
  show Ending.returned (Value.int IntKind.i64 ((c - 1) / 8 * 8 + 8 + 1)) = _
  rw [Int.add_assoc]
  rfl

theorem past_any (l c : Int) (r : ByteArray) (h : 0 < r.size) (hs : r.size ≤ maxLen) (_l1 : 1 ≤ l) (_l2 : l ≤ 1152921504606846976) (c1 : 1 ≤ c) (c2 : c ≤ 1152921504606846976) (w : World) :
    Calls Tryz.prog 73 #[.agg #[.int .i64 l, .int .i64 c], .string r] w fun e w' => e = .returned (.agg #[.int .i64 (adv r 0 (l, c)).1, .int .i64 (adv r 0 (l, c)).2]) ∧ Below w.heap.size w w' := by
  by_cases n2 : nlAt r 0 = 2
  · have hr : Hid (adv r 0 (l, c) = (l, c)) := by unfold Hid adv; rw [if_pos n2]
    have N := fun W => newline_any r h hs W
    rw [n2] at N
    have NH := Lib.hid N
    clear N n2
    go_enter Tryz.func73, Tryz.ntmps73
    go_wp2_with (first | (go_at_call 93; refine (NH.out _).mono ?_; rintro e w1 ⟨rfl, rfl⟩))
    go_returns
    exact ⟨by rw [hr.out], by go_grown⟩
  by_cases n1 : nlAt r 0 = 1
  · have hr : Hid (adv r 0 (l, c) = (l + 1, 1)) := by unfold Hid adv; rw [if_neg n2, if_pos n1]
    have N := fun W => newline_any r h hs W
    rw [n1] at N
    have NH := Lib.hid N
    clear N n2 n1
    go_enter Tryz.func73, Tryz.ntmps73
    go_wp2_with (first | (go_at_call 93; refine (NH.out _).mono ?_; rintro e w1 ⟨rfl, rfl⟩))
    go_returns
    exact ⟨by rw [hr.out], by go_grown⟩
  have n0 : nlAt r 0 = 0 := by have := nlAt_le r 0; omega
  have hb := bt_in r 0 h
  by_cases c9 : bt r 0 = 9
  · have hr : Hid (adv r 0 (l, c) = (l, tabI c)) := by unfold Hid adv; rw [if_neg n2, if_neg n1, if_pos c9]
    have N := fun W => newline_any r h hs W
    rw [n0] at N
    have NH := Lib.hid N
    have x : r[0].toNat = 9 := by omega
    clear N n2 n1 n0 c9 hb
    go_enter Tryz.func73, Tryz.ntmps73
    go_wp2_with (first | (go_at_call 93; refine (NH.out _).mono ?_; rintro e w1 ⟨rfl, rfl⟩))
    go_region_held3 (fun w' => w'.cell? ⟨w.heap.size, 0, none⟩ = some (.int .i64 l) ∧ w'.cell? ⟨w.heap.size, 1, none⟩ = some (.int .i64 c)) (go_keep) (first | (go_at_call 94; refine (afterTab_any c c1 c2 _).mono ?_; rintro e w2 ⟨rfl, rfl⟩))
    all_goals go_wp2
    all_goals go_returns
    all_goals exact ⟨by rw [hr.out], by go_grown⟩
  · have hr : Hid (adv r 0 (l, c) = (l, c + 1)) := by unfold Hid adv; rw [if_neg n2, if_neg n1, if_neg c9]
    have N := fun W => newline_any r h hs W
    rw [n0] at N
    have NH := Lib.hid N
    have x : ¬ r[0].toNat = 9 := by omega
    clear N n2 n1 n0 c9 hb
    go_enter Tryz.func73, Tryz.ntmps73
    go_wp2_with (first | (go_at_call 93; refine (NH.out _).mono ?_; rintro e w1 ⟨rfl, rfl⟩))
    go_returns
    exact ⟨by rw [hr.out], by go_grown⟩
end Go.Proofs.YtmgclgojmckfhaaGreatDoor.Plc
/-
  The contracts of the document's own End, Width and Of. Condition: the string has at most 2^50 bytes.
-/
namespace Go.Proofs.YtmgclgojmckfhaaGreatDoor.Plc
open Go.RowKit Gly
set_option linter.unusedSimpArgs false

/-- Width's answer. -/
def widthI (s : ByteArray) (col : Int) : Int × Int := if col < 1 ∨ 2147483648 < col then (0, 1) else ((spot s col s.size).2, 0)

/-- Of's answer. -/
def ofI (s : ByteArray) (i : Int) : Int × Int × Int := if i < 0 ∨ (s.size : Int) < i then (0, 0, 1) else ((spot s 1 i.toNat).1, (spot s 1 i.toNat).2, 0)

end Go.Proofs.YtmgclgojmckfhaaGreatDoor.Plc
/-
  The contracts of place.Width and place.Of. Condition: the string has at most 2^50 bytes.
-/
namespace Go.Proofs.YtmgclgojmckfhaaGreatDoor.Plc
open Go.RowKit Gly
set_option linter.unusedSimpArgs false
attribute [local go_sem ↓] Go.wp_at_zero Go.wp_at_succ

theorem below_drewN {B : Nat} {a w : World} (h : Below B a w) (n : Nat) : Below B a (w.drewN n) := ⟨h.os, h.tape, h.output, h.size, h.block⟩
theorem iterPos_of {w : World} {k : Nat} {s : ByteArray} {n : Nat} (h : w.heap[k]? = some (.stringIter s n)) : w.iterPos k = n := by simp [World.iterPos, h]
theorem next_in {w wr : World} {B k : Nat} {s : ByteArray} {p : Nat} (hk : wr.heap[k]? = some (.stringIter s p)) (hB : Below B w wr) (hBk : B ≤ k) (hp : p < s.size) :
    ∃ W2, (∀ ty, (Instr.next (.pointer (some ⟨k, 0, none⟩)) true ty).run Tryz.prog wr = .ok (.tuple #[.bool true, .int .i64 (p : Int), .int .i32 (((Utf8.decode s p).1 : Nat) : Int)]) W2) ∧
      W2.heap[k]? = some (.stringIter s (p + (Utf8.decode s p).2)) ∧ Below B w W2 ∧ W2.heap.size = wr.heap.size ∧ (∀ j, j ≠ k → W2.heap[j]? = wr.heap[j]?) :=
  ⟨wr.iterAt k s (p + (Utf8.decode s p).2), fun ty => Lib.run_next_any_at wr k s p ty hk hp, Lib.iterAt_heap _ _ _ _ _ hk, Lib.below_iterAt hB hBk _ _, Lib.iterAt_size _ _ _ _, fun _ hj => Lib.iterAt_other _ _ _ _ _ hj⟩

/-- A block that holds a place. -/
def Spot (w : World) (g : Nat) (st : Int × Int) : Prop := w.heap[g]? = some (.cells #[.int .i64 st.1, .int .i64 st.2] 108 (0, 0))
theorem Spot.c0 {w : World} {g : Nat} {st : Int × Int} (h : Spot w g st) : w.cell? ⟨g, 0, none⟩ = some (.int .i64 st.1) := by rw [cell_of_row w g 0 _ _ _ h]; rfl
theorem Spot.c1 {w : World} {g : Nat} {st : Int × Int} (h : Spot w g st) : w.cell? ⟨g, 1, none⟩ = some (.int .i64 st.2) := by rw [cell_of_row w g 1 _ _ _ h]; rfl
theorem Spot.free {w : World} {g : Nat} {st : Int × Int} (h : Spot w g st) (i : Nat) : w.frozen? ⟨g, i, none⟩ = false := by unfold Spot at h; simp [World.frozen?, h]
theorem Spot.lt {w : World} {g : Nat} {st : Int × Int} (h : Spot w g st) : g < w.heap.size := lt_of_block h
theorem Spot.below {B : Nat} {w w' : World} {g : Nat} {st : Int × Int} (h : Spot w g st) (hb : Below B w w') (hg : g < B) : Spot w' g st := (hb.block g hg).trans h
theorem Spot.set {w : World} {g : Nat} {st st' : Int × Int} (h : Spot w g st) : Spot ((w.setCell ⟨g, 0, none⟩ (.int .i64 st'.1)).setCell ⟨g, 1, none⟩ (.int .i64 st'.2)) g st' := by
  unfold Spot at h ⊢
  simp [World.setCell, Array.getElem?_modify, h]
theorem two_other {w : World} {g j : Nat} {u v : Value} (hj : j ≠ g) : ((w.setCell ⟨g, 0, none⟩ u).setCell ⟨g, 1, none⟩ v).heap[j]? = w.heap[j]? := by
  rw [Below.heap_setCell _ _ _ _ hj, Below.heap_setCell _ _ _ _ hj]

theorem start_spot (w1 : World) (s : ByteArray) (st : Int × Int) : Spot ((w1.alloc (.cells #[.int .i64 st.1, .int .i64 st.2] 108)).iter s 0) w1.heap.size st :=
  (Below.heap_alloc _ _ _ (by simp)).trans (heap_alloc_new w1 _)
theorem start_iter (w1 : World) (s : ByteArray) (o : Obj) : ((w1.alloc o).iter s 0).heap[w1.heap.size + 1]? = some (.stringIter s 0) := by
  have := World.iter_heap (w1.alloc o) s 0
  simpa using this
theorem Spot.drew {w : World} {g : Nat} {st : Int × Int} (h : Spot w g st) : Spot w.drew g st := h

theorem after_past {w W2 w2 : World} {g : Nat} {st : Int × Int} (st' : Int × Int) (sp : Spot w2 g st) (hb : Below w.heap.size w W2) (h3 : Below W2.drew.heap.size W2.drew w2) (hg : w.heap.size ≤ g) :
    Spot ((w2.setCell ⟨g, 0, none⟩ (.int .i64 st'.1)).setCell ⟨g, 1, none⟩ (.int .i64 st'.2)) g st' ∧ (∀ j, j ≠ g → j < W2.heap.size → ((w2.setCell ⟨g, 0, none⟩ (.int .i64 st'.1)).setCell ⟨g, 1, none⟩ (.int .i64 st'.2)).heap[j]? = W2.heap[j]?) ∧
      Below w.heap.size w ((w2.setCell ⟨g, 0, none⟩ (.int .i64 st'.1)).setCell ⟨g, 1, none⟩ (.int .i64 st'.2)) := by
  refine ⟨sp.set, fun j hj hl => ?_, ?_⟩
  · rw [two_other hj]
    exact h3.block _ hl
  · have h4 : Below w.heap.size w w2 := hb.trans (Below.mono (w := W2) ⟨h3.os, h3.tape, h3.output, h3.size, h3.block⟩ hb.size)
    exact (h4.setCell hg _).setCell hg _

theorem past_at (s : ByteArray) (p : Nat) (st : Int × Int) (hs : s.size ≤ 1125899906842624) (hp : p < s.size) (l1 : 1 ≤ st.1) (l2 : st.1 ≤ 1152921504606846976) (c1 : 1 ≤ st.2) (c2 : st.2 ≤ 1152921504606846976) (w : World) :
    Calls Tryz.prog 73 #[.agg #[.int .i64 st.1, .int .i64 st.2], .string (s.extract p s.size)] w fun e w' => e = .returned (.agg #[.int .i64 (adv s p st).1, .int .i64 (adv s p st).2]) ∧ Below w.heap.size w w' := by
  have h := past_any st.1 st.2 (s.extract p s.size) (by rw [size_tail]; omega) (by rw [size_tail]; unfold maxLen; omega) l1 l2 c1 c2 w
  have e : adv (s.extract p s.size) 0 (st.1, st.2) = adv s p st := by
    unfold adv
    rw [nlAt_tail, bt_tail, Nat.add_zero]
  rw [e] at h
  exact h

set_option maxHeartbeats 1000000 in
theorem width_any (s : ByteArray) (col : Int) (hs : s.size ≤ 1125899906842624) (w : World) :
    Calls Tryz.prog 56 #[.string s, .int .i64 col] w fun e w' => e = .returned (.tuple #[.int .i64 (widthI s col).1, .int .i64 (widthI s col).2]) ∧ Below w.heap.size w w' := by
  by_cases h1 : col < 1
  · have hr : Hid (widthI s col = (0, 1)) := by unfold Hid widthI; rw [if_pos (Or.inl h1)]
    go_enter Tryz.func56, Tryz.ntmps56
    go_wp2
    go_ret2
    exact ⟨by rw [hr.out]; rfl, Below.refl _ _⟩
  by_cases h2 : 2147483648 < col
  · have hr : Hid (widthI s col = (0, 1)) := by unfold Hid widthI; rw [if_pos (Or.inr h2)]
    go_enter Tryz.func56, Tryz.ntmps56
    go_wp2
    go_ret2
    exact ⟨by rw [hr.out]; rfl, Below.refl _ _⟩
  have hr : Hid (widthI s col = ((scan s s.size s.size 0 (1, col)).2, 0)) := by unfold Hid widthI; rw [if_neg (by omega)]; rfl
  have b1 : decide (col < 1) = false := decide_eq_false h1
  have b2 : decide (2147483648 < col) = false := decide_eq_false h2
  go_enter Tryz.func56, Tryz.ntmps56
  go_wp2_with fail
  refine (start_any col _).mono ?_
  rintro e w1 ⟨rfl, hb1⟩
  have HB1 := Lib.hid hb1
  clear hb1
  go_wp2_with fail
  go_loopw [7] (fun _ wr => ∃ (p f : Nat) (st : Int × Int), Spot wr w1.heap.size st ∧ wr.heap[w1.heap.size + 1]? = some (.stringIter s p) ∧ Below w.heap.size w wr ∧ scan s s.size f p st = scan s s.size s.size 0 (1, col) ∧ p ≤ s.size ∧ s.size ≤ p + f ∧ 1 ≤ st.1 ∧ st.1 ≤ 1 + (p : Int) ∧ 1 ≤ st.2 ∧ st.2 ≤ 2147483648 + 8 * (p : Int)) (fun _ wr => s.size - wr.iterPos (w1.heap.size + 1))
  case atStart =>
    exact ⟨0, s.size, (1, col), start_spot w1 s (1, col), start_iter w1 s _, HB1.out.trans ((((Below.refl _ _).alloc (Nat.le_refl _) _).alloc (by simp) _).mono HB1.out.size), rfl, by omega, by omega, by dsimp only; omega, by dsimp only; omega, by dsimp only; omega, by dsimp only; omega⟩
  case round =>
    obtain ⟨p, f, st, hsp, hit, hbw, hq, hp0, hf, k1, k2, k3, k4⟩ := hrel
    have HQ := Lib.hid hq
    have H1 := Lib.hid h1
    have H2 := Lib.hid h2
    have HIT := Lib.hid hit
    have HSP := Lib.hid hsp
    have hBk := HB1.out.size
    clear hq h1 h2 hit hsp
    by_cases hp : p < s.size
    · have hw := width_ge s p
      have hx := width_fits s p hp
      obtain ⟨W2, hnx, it2, hb2, hz2, ho2⟩ := next_in HIT.out hbw (by omega) hp
      have IT2 := Lib.hid it2
      have HB2 := Lib.hid hb2
      have HO2 := Lib.hid ho2
      have sp2 : Hid (Spot W2 w1.heap.size st) := (ho2 _ (by omega)).trans HSP.out
      clear it2 hb2 ho2 hbw
      have x0 := sp2.out.c0
      have x1 := sp2.out.c1
      have i0 : (0 : Int) ≤ (p : Int) := by omega
      have i1 : (p : Int) ≤ (s.size : Int) := by omega
      go_wp2_with fail
      go_region_with (first | (go_at_call 73; refine (past_at s p st hs hp (by omega) (by omega) (by omega) (by omega) _).mono ?_; rintro e w2 ⟨rfl, hb3⟩; have sp3 : Hid (Spot w2 w1.heap.size st) := sp2.out.drew.below hb3 sp2.out.lt; have HB3 := Lib.hid hb3; clear hb3; have y0 := sp3.out.c0; have y1 := sp3.out.c1; have y2 := sp3.out.free 0; have y3 := sp3.out.free 1))
      all_goals go_wp2
      obtain ⟨q1, q2, q3⟩ := after_past (adv s p st) sp3.out HB2.out HB3.out hBk
      have Q2 := Lib.hid ((q2 _ (by omega) (lt_of_block IT2.out)).trans IT2.out)
      clear q2
      go_roundw
      case rel =>
        have hbd := adv_bd s p st _ _ ⟨k1, k2⟩ ⟨k3, k4⟩
        exact ⟨_, f - 1, _, q1, Q2.out, q3, by rw [← HQ.out, scan_go s _ f p st ⟨hp, hx⟩ hf], hx, by omega, hbd.1.1, by have := hbd.1.2; omega, hbd.2.1, by have := hbd.2.2; omega⟩
      case measure => rw [iterPos_of Q2.out, iterPos_of HIT.out]; omega
    · have hnx : ∀ ty, (Instr.next (.pointer (some ⟨w1.heap.size + 1, 0, none⟩)) true ty).run Tryz.prog wr = .ok (.tuple #[.bool false]) wr := fun ty => Lib.run_next_end_at (P := Tryz.prog) wr (w1.heap.size + 1) s p ty HIT.out hp
      have x0 := HSP.out.c0
      have x1 := HSP.out.c1
      go_wp2
      go_ret2
      refine ⟨?_, hbw⟩
      rw [hr.out, ← HQ.out, scan_stop _ _ _ _ _ (by omega)]
      rfl

theorem start_two (w1 : World) (s : ByteArray) (st : Int × Int) : Spot (((w1.alloc (.cells #[.int .i64 st.1, .int .i64 st.2] 108)).alloc (.cells #[.int .i64 st.1, .int .i64 st.2] 108)).iter s 0) w1.heap.size st ∧
    Spot (((w1.alloc (.cells #[.int .i64 st.1, .int .i64 st.2] 108)).alloc (.cells #[.int .i64 st.1, .int .i64 st.2] 108)).iter s 0) (w1.heap.size + 1) st ∧
    (((w1.alloc (.cells #[.int .i64 st.1, .int .i64 st.2] 108)).alloc (.cells #[.int .i64 st.1, .int .i64 st.2] 108)).iter s 0).heap[w1.heap.size + 2]? = some (.stringIter s 0) := by
  refine ⟨?_, ?_, ?_⟩
  · exact (Below.heap_alloc _ _ _ (by simp; omega)).trans ((Below.heap_alloc _ _ _ (by simp)).trans (heap_alloc_new w1 _))
  · refine (Below.heap_alloc _ _ _ (by simp)).trans ?_
    have := heap_alloc_new (w1.alloc (.cells #[.int .i64 st.1, .int .i64 st.2] 108)) (.cells #[.int .i64 st.1, .int .i64 st.2] 108)
    simpa using this
  · have := World.iter_heap ((w1.alloc (.cells #[.int .i64 st.1, .int .i64 st.2] 108)).alloc (.cells #[.int .i64 st.1, .int .i64 st.2] 108)) s 0
    simpa using this

set_option maxHeartbeats 1000000 in
theorem of_any (s : ByteArray) (i : Int) (hs : s.size ≤ 1125899906842624) (w : World) :
    Calls Tryz.prog 55 #[.string s, .int .i64 i] w fun e w' => e = .returned (.tuple #[.int .i64 (ofI s i).1, .int .i64 (ofI s i).2.1, .int .i64 (ofI s i).2.2]) ∧ Below w.heap.size w w' := by
  by_cases h1 : i < 0
  · have hr : Hid (ofI s i = (0, 0, 1)) := by unfold Hid ofI; rw [if_pos (Or.inl h1)]
    go_enter Tryz.func55, Tryz.ntmps55
    go_wp2
    go_ret3
    exact ⟨by rw [hr.out]; rfl, Below.refl _ _⟩
  by_cases h2 : (s.size : Int) < i
  · have hr : Hid (ofI s i = (0, 0, 1)) := by unfold Hid ofI; rw [if_pos (Or.inr h2)]
    go_enter Tryz.func55, Tryz.ntmps55
    go_wp2
    go_ret3
    exact ⟨by rw [hr.out]; rfl, Below.refl _ _⟩
  obtain ⟨a, rfl⟩ := Int.eq_ofNat_of_zero_le (a := i) (by omega)
  have ha : a ≤ s.size := by omega
  have hr : Hid (ofI s (a : Int) = ((scan s a s.size 0 (1, 1)).1, (scan s a s.size 0 (1, 1)).2, 0)) := by unfold Hid ofI; rw [if_neg (by omega), Int.toNat_natCast]; rfl
  clear h1 h2
  have b1 : decide ((a : Int) < 0) = false := decide_eq_false (by omega)
  have b2 : decide (s.size < a) = false := decide_eq_false (by omega)
  go_enter Tryz.func55, Tryz.ntmps55
  go_wp2_with fail
  refine (start_any 1 _).mono ?_
  rintro e w1 ⟨rfl, hb1⟩
  have HB1 := Lib.hid hb1
  clear hb1
  go_wp2_with fail
  go_loopw [9] (fun _ wr => ∃ (p f : Nat) (st fo : Int × Int), Spot wr w1.heap.size st ∧ Spot wr (w1.heap.size + 1) fo ∧ wr.heap[w1.heap.size + 2]? = some (.stringIter s p) ∧ Below w.heap.size w wr ∧ (p ≤ a → scan s a f p st = scan s a s.size 0 (1, 1)) ∧ (a < p → fo = scan s a s.size 0 (1, 1)) ∧ p ≤ s.size ∧ s.size ≤ p + f ∧ 1 ≤ st.1 ∧ st.1 ≤ 1 + (p : Int) ∧ 1 ≤ st.2 ∧ st.2 ≤ 1 + 8 * (p : Int)) (fun _ wr => s.size - wr.iterPos (w1.heap.size + 2))
  case atStart =>
    obtain ⟨q1, q2, q3⟩ := start_two w1 s (1, 1)
    exact ⟨0, s.size, (1, 1), (1, 1), q1, q2, q3, HB1.out.trans (((((Below.refl _ _).alloc (Nat.le_refl _) _).alloc (by simp) _).alloc (by simp; omega) _).mono HB1.out.size), fun _ => rfl, fun h => absurd h (by omega), by omega, by omega, by dsimp only; omega, by dsimp only; omega, by dsimp only; omega, by dsimp only; omega⟩
  case round =>
    obtain ⟨p, f, st, fo, hsp, hfo, hit, hbw, hq, hq2, hp0, hf, k1, k2, k3, k4⟩ := hrel
    have HQ := Lib.hid hq
    have HQ2 := Lib.hid hq2
    have HIT := Lib.hid hit
    have HSP := Lib.hid hsp
    have HFO := Lib.hid hfo
    have HBW := Lib.hid hbw
    have hBk := HB1.out.size
    clear hq hit hsp hfo hbw hq2
    by_cases hp : p < s.size
    · have hw := width_ge s p
      have hx := width_fits s p hp
      obtain ⟨W2, hnx, it2, hb2, hz2, ho2⟩ := next_in HIT.out HBW.out (by omega) hp
      have IT2 := Lib.hid it2
      have HB2 := Lib.hid hb2
      have sp2 : Hid (Spot W2 w1.heap.size st) := (ho2 _ (by omega)).trans HSP.out
      have fo2 : Hid (Spot W2 (w1.heap.size + 1) fo) := (ho2 _ (by omega)).trans HFO.out
      clear it2 hb2 ho2
      have x0 := sp2.out.c0
      have x1 := sp2.out.c1
      have z0 := fo2.out.c0
      have z1 := fo2.out.c1
      have z2 := fo2.out.free 0
      have z3 := fo2.out.free 1
      by_cases ho : a < p
      · have hne : ¬ a = s.size := by omega
        go_wp2_with fail
        go_quiet (fail)
        go_wp2_with fail
        go_ret3
        refine ⟨?_, below_drewN HB2.out _⟩
        rw [hr.out, ← HQ2.out ho]
        rfl
      · go_wp2_with fail
        have t1 : Hid (Spot ((W2.setCell ⟨w1.heap.size + 1, 0, none⟩ (.int .i64 st.1)).setCell ⟨w1.heap.size + 1, 1, none⟩ (.int .i64 st.2)) w1.heap.size st) := (two_other (by omega)).trans sp2.out
        have t2 : Hid (Spot ((W2.setCell ⟨w1.heap.size + 1, 0, none⟩ (.int .i64 st.1)).setCell ⟨w1.heap.size + 1, 1, none⟩ (.int .i64 st.2)) (w1.heap.size + 1) st) := fo2.out.set
        have t3 : Hid (((W2.setCell ⟨w1.heap.size + 1, 0, none⟩ (.int .i64 st.1)).setCell ⟨w1.heap.size + 1, 1, none⟩ (.int .i64 st.2)).heap[w1.heap.size + 2]? = some (.stringIter s (p + (Utf8.decode s p).2))) := (two_other (by omega)).trans IT2.out
        have t4 : Hid (Below w.heap.size w ((W2.setCell ⟨w1.heap.size + 1, 0, none⟩ (.int .i64 st.1)).setCell ⟨w1.heap.size + 1, 1, none⟩ (.int .i64 st.2))) := (HB2.out.setCell (by dsimp only; omega) _).setCell (by dsimp only; omega) _
        generalize (W2.setCell ⟨w1.heap.size + 1, 0, none⟩ (.int .i64 st.1)).setCell ⟨w1.heap.size + 1, 1, none⟩ (.int .i64 st.2) = W3 at *
        clear x0 x1 z0 z1 z2 z3 sp2 fo2 IT2 HB2 hz2
        have x0 := t1.out.c0
        have x1 := t1.out.c1
        have i0 : (0 : Int) ≤ (p : Int) := by omega
        have i1 : (p : Int) ≤ (s.size : Int) := by omega
        go_region_with (first | (go_at_call 73; refine (past_at s p st hs hp (by omega) (by omega) (by omega) (by omega) _).mono ?_; rintro e w2 ⟨rfl, hb3⟩; have sp3 : Hid (Spot w2 w1.heap.size st) := t1.out.drew.below hb3 t1.out.lt; have HB3 := Lib.hid hb3; clear hb3; have y0 := sp3.out.c0; have y1 := sp3.out.c1; have y2 := sp3.out.free 0; have y3 := sp3.out.free 1))
        all_goals go_wp2
        obtain ⟨q1, q2, q3⟩ := after_past (adv s p st) sp3.out t4.out HB3.out hBk
        have Q1 := Lib.hid ((q2 _ (by omega) (lt_of_block t2.out)).trans t2.out)
        have Q2 := Lib.hid ((q2 _ (by omega) (lt_of_block t3.out)).trans t3.out)
        clear q2
        go_roundw
        case rel =>
          have hbd := adv_bd s p st _ _ ⟨k1, k2⟩ ⟨k3, k4⟩
          refine ⟨_, f - 1, _, st, q1, Q1.out, Q2.out, q3, ?_, ?_, hx, by omega, hbd.1.1, by have := hbd.1.2; omega, hbd.2.1, by have := hbd.2.2; omega⟩
          · intro hle
            rw [← HQ.out (by omega), scan_go s _ f p st ⟨hp, hle⟩ hf]
          · intro hlt
            rw [← HQ.out (by omega), scan_stop s _ f p st (by omega)]
        case measure => rw [iterPos_of Q2.out, iterPos_of HIT.out]; omega
    · have hnx : ∀ ty, (Instr.next (.pointer (some ⟨w1.heap.size + 2, 0, none⟩)) true ty).run Tryz.prog wr = .ok (.tuple #[.bool false]) wr := fun ty => Lib.run_next_end_at (P := Tryz.prog) wr (w1.heap.size + 2) s p ty HIT.out hp
      have x0 := HSP.out.c0
      have x1 := HSP.out.c1
      have z0 := HFO.out.c0
      have z1 := HFO.out.c1
      have z2 := HFO.out.free 0
      have z3 := HFO.out.free 1
      by_cases he : a = s.size
      · have he2 := Lib.hid he
        subst he
        go_wp2_with fail
        have t2 : Hid (Spot ((wr.setCell ⟨w1.heap.size + 1, 0, none⟩ (.int .i64 st.1)).setCell ⟨w1.heap.size + 1, 1, none⟩ (.int .i64 st.2)) (w1.heap.size + 1) st) := HFO.out.set
        have t4 : Hid (Below w.heap.size w ((wr.setCell ⟨w1.heap.size + 1, 0, none⟩ (.int .i64 st.1)).setCell ⟨w1.heap.size + 1, 1, none⟩ (.int .i64 st.2))) := (HBW.out.setCell (by dsimp only; omega) _).setCell (by dsimp only; omega) _
        generalize (wr.setCell ⟨w1.heap.size + 1, 0, none⟩ (.int .i64 st.1)).setCell ⟨w1.heap.size + 1, 1, none⟩ (.int .i64 st.2) = W3 at *
        clear z0 z1
        have z0 := t2.out.c0
        have z1 := t2.out.c1
        go_quiet (fail)
        go_wp2_with fail
        go_ret3
        refine ⟨?_, below_drewN t4.out _⟩
        rw [hr.out, ← HQ.out (by omega), scan_stop _ _ _ _ _ (by omega)]
        rfl
      · go_wp2_with fail
        go_quiet (fail)
        go_wp2_with fail
        go_ret3
        refine ⟨?_, below_drewN HBW.out _⟩
        rw [hr.out, ← HQ2.out (by omega)]
        rfl
end Go.Proofs.YtmgclgojmckfhaaGreatDoor.Plc
/-
  The contracts of place.Lines, of the document's own Lines, and of Same at equal lists. Condition: the string has at most 2^40 bytes.
-/
namespace Go.Proofs.YtmgclgojmckfhaaGreatDoor.Plc
open Go.RowKit Gly
set_option linter.unusedSimpArgs false

/-- A list of texts in memory of the call's own. -/
def Texts (w : World) (base : Nat) (v : Value) (L : List ByteArray) : Prop := w.ownsRow base 9 1 v L.length (L.map Value.string)
theorem Texts.push {w : World} {base : Nat} {v : Value} {L : List ByteArray} {x : ByteArray} (h : w.ownsRow base 9 1 v (L.length + 1) (L.map Value.string ++ [.string x])) : Texts w base v (L ++ [x]) := by
  unfold Texts
  rw [List.length_append, List.map_append]
  exact h

end Go.Proofs.YtmgclgojmckfhaaGreatDoor.Plc
/-
  The contracts of place.Trim, of the document's own Trim and Lines, and of Same at one list twice; and that the sample which every statement of this layer asks first ('awake') is answered true. Condition: lengths that an int holds; at most 2^40 bytes where lines are made.
-/
namespace Go.Proofs.YtmgclgojmckfhaaGreatDoor.Plc
open Go.RowKit Gly
set_option linter.unusedSimpArgs false

theorem bytes_ext {a b : ByteArray} (h : a.data.toList = b.data.toList) : a = b := by
  cases a; cases b; simp at h; subst h; rfl

def isBlank (b : Nat) : Prop := b = 32 ∨ (9 ≤ b ∧ b ≤ 13)
instance (b : Nat) : Decidable (isBlank b) := by unfold isBlank; exact inferInstance
/-- Where the blanks at the end of a head begin. -/
def trimEnd (s : ByteArray) : Nat → Nat
  | 0 => 0
  | n + 1 => if isBlank (bt s n) then trimEnd s n else n + 1
/-- Trim's answer. -/
def trimS (s : ByteArray) : ByteArray := s.extract 0 (trimEnd s s.size)
end Go.Proofs.YtmgclgojmckfhaaGreatDoor.Plc
