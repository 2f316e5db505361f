/-
  The contracts of package word's whole, Scan, Kind, begins, Split, Apart. Condition: a string has at most 2^49 bytes.
-/
import Derived.Test.YtkabgeimcpkpgaaWrdScan
import Derived.Deep.QuietTactic
import Derived.BigQuiet
namespace Go.Proofs.Ytkabgeimcpkpgaa.Wrd
open Go.RowKit Gly
set_option linter.unusedSimpArgs false

theorem below_drewN {B : Nat} {a w : World} (h : Below B a w) (n : Nat) : Below B a (w.drewN n) := ⟨h.os, h.tape, h.output, h.size, h.block⟩
theorem lexI_bd (n : Nat) (t : Int × Nat × Nat) : 0 ≤ (lexI n t).2.1 ∧ 0 ≤ (lexI n t).2.2 := by
  unfold lexI
  split
  · exact ⟨Int.le_refl _, Int.le_refl _⟩
  · refine ⟨by dsimp only; omega, ?_⟩
    dsimp only
    split <;> omega

theorem Scan_any (s : ByteArray) (i : Int) (hs : s.size ≤ 1125899906842624) (w : World) :
    Calls Try.prog 10 #[.string s, .int .i64 i] w fun e w' => e = .returned (.tuple #[.int .i64 (scanI s i).1, .int .i64 (scanI s i).2.1]) ∧ Below w.heap.size w w' := by
  have c0 := fun W => scan_any s i hs W
  generalize scanI s i = r at c0 ⊢
  obtain ⟨k, e, p⟩ := r
  dsimp only at c0 ⊢
  have C0 := Lib.hid c0
  clear c0
  go_enter Try.func10, Try.ntmps10
  go_wp2_with fail
  refine (C0.out _).mono ?_
  rintro e w1 ⟨rfl, hb1⟩
  have HB1 := Lib.hid hb1
  clear hb1
  have NW := Trio.new w1 (k, e, p)
  have y0 := NW.c0
  have y1 := NW.c1
  have y2 := NW.c2
  dsimp only at y0 y1 y2
  clear NW
  go_wp2_with fail
  go_quiet (fail)
  go_wp2_with fail
  go_ret2
  exact ⟨rfl, below_drewN (HB1.out.trans (((Below.refl _ _).alloc (Nat.le_refl _) _).mono HB1.out.size)) _⟩

/-- The word that a string is. -/
def wholeI (s : ByteArray) : Int × Int × Int := if (scanI s 0).2.1 = s.size then scanI s 0 else (0, 0, 0)
theorem whole_any (s : ByteArray) (hs : s.size ≤ 1125899906842624) (w : World) :
    Calls Try.prog 27 #[.string s] w fun e w' => e = .returned (.agg #[.int .i64 (wholeI s).1, .int .i64 (wholeI s).2.1, .int .i64 (wholeI s).2.2]) ∧ Below w.heap.size w w' := by
  have tn := Trio.new w (0, 0, 0)
  have c0 := fun W => scan_any s 0 hs W
  have hr : wholeI s = if (scanI s 0).2.1 = s.size then scanI s 0 else (0, 0, 0) := rfl
  generalize scanI s 0 = r at c0 hr
  obtain ⟨k, e, p⟩ := r
  dsimp only at c0 hr
  have C0 := Lib.hid c0
  clear c0
  by_cases he : e = s.size
  · rw [if_pos he] at hr
    have HR := Lib.hid hr
    have b1 : (e != (s.size : Int)) = false := by rw [he]; simp
    clear hr he
    go_enter Try.func27, Try.ntmps27
    go_wp2_with fail
    refine (C0.out _).mono ?_
    rintro e1 w2 ⟨rfl, hb2⟩
    have Z2 : Hid (Trio w2 w.heap.size (0, 0, 0)) := tn.below hb2 tn.lt
    have B2 : Hid (Below w.heap.size w w2) := ((Below.refl _ _).alloc (Nat.le_refl _) _).trans (hb2.mono (by rw [World.size_alloc]; omega))
    have L2 : Hid (w.heap.size < w2.heap.size) := Z2.out.lt
    clear hb2
    have ZW : Hid (Trio (w2.alloc (.cells #[.int .i64 k, .int .i64 e, .int .i64 p] 34)) w.heap.size (0, 0, 0)) := Z2.out.below ((Below.refl _ _).alloc (Nat.le_refl _) _) Z2.out.lt
    have BW : Hid (Below w.heap.size w (w2.alloc (.cells #[.int .i64 k, .int .i64 e, .int .i64 p] 34))) := B2.out.alloc (Nat.le_of_lt L2.out) _
    have NW : Hid (Trio (w2.alloc (.cells #[.int .i64 k, .int .i64 e, .int .i64 p] 34)) w2.heap.size (k, e, p)) := Trio.new w2 (k, e, p)
    have z0 := ZW.out.free 0
    have z1 := ZW.out.free 1
    have z2 := ZW.out.free 2
    have z3 := ZW.out.c0
    have z4 := ZW.out.c1
    have z5 := ZW.out.c2
    have y0 := NW.out.c0
    have y1 := NW.out.c1
    have y2 := NW.out.c2
    dsimp only at z3 z4 z5 y0 y1 y2
    go_wp2_with fail
    obtain ⟨t9, b9, -⟩ := ZW.out.store BW.out (Nat.le_refl _) k e p
    have T9 := Lib.hid t9
    have B9 := Lib.hid b9
    clear t9 b9
    generalize (((w2.alloc (.cells #[.int .i64 k, .int .i64 e, .int .i64 p] 34)).setCell ⟨w.heap.size, 0, none⟩ (.int .i64 k)).setCell ⟨w.heap.size, 1, none⟩ (.int .i64 e)).setCell ⟨w.heap.size, 2, none⟩ (.int .i64 p) = W3 at T9 B9 ⊢
    have v0 := T9.out.c0
    have v1 := T9.out.c1
    have v2 := T9.out.c2
    dsimp only at v0 v1 v2
    refine bodyPost_ret (by simp [results, Try.results27, go_sem, v0, v1, v2]; try rfl) rfl ?_
    exact ⟨by rw [HR.out], B9.out⟩
  · rw [if_neg he] at hr
    have HR := Lib.hid hr
    have b1 : (e != (s.size : Int)) = true := by rw [bne_iff_ne]; exact he
    clear hr he
    go_enter Try.func27, Try.ntmps27
    go_wp2_with fail
    refine (C0.out _).mono ?_
    rintro e1 w2 ⟨rfl, hb2⟩
    have Z2 : Hid (Trio w2 w.heap.size (0, 0, 0)) := tn.below hb2 tn.lt
    have B2 : Hid (Below w.heap.size w w2) := ((Below.refl _ _).alloc (Nat.le_refl _) _).trans (hb2.mono (by rw [World.size_alloc]; omega))
    have L2 : Hid (w.heap.size < w2.heap.size) := Z2.out.lt
    clear hb2
    have ZW : Hid (Trio (w2.alloc (.cells #[.int .i64 k, .int .i64 e, .int .i64 p] 34)) w.heap.size (0, 0, 0)) := Z2.out.below ((Below.refl _ _).alloc (Nat.le_refl _) _) Z2.out.lt
    have BW : Hid (Below w.heap.size w (w2.alloc (.cells #[.int .i64 k, .int .i64 e, .int .i64 p] 34))) := B2.out.alloc (Nat.le_of_lt L2.out) _
    have NW : Hid (Trio (w2.alloc (.cells #[.int .i64 k, .int .i64 e, .int .i64 p] 34)) w2.heap.size (k, e, p)) := Trio.new w2 (k, e, p)
    have z0 := ZW.out.free 0
    have z1 := ZW.out.free 1
    have z2 := ZW.out.free 2
    have z3 := ZW.out.c0
    have z4 := ZW.out.c1
    have z5 := ZW.out.c2
    have y0 := NW.out.c0
    have y1 := NW.out.c1
    have y2 := NW.out.c2
    dsimp only at z3 z4 z5 y0 y1 y2
    go_wp2_with fail
    obtain ⟨t9, b9, -⟩ := ZW.out.store BW.out (Nat.le_refl _) 0 0 0
    have T9 := Lib.hid t9
    have B9 := Lib.hid b9
    clear t9 b9
    generalize (((w2.alloc (.cells #[.int .i64 k, .int .i64 e, .int .i64 p] 34)).setCell ⟨w.heap.size, 0, none⟩ (.int .i64 0)).setCell ⟨w.heap.size, 1, none⟩ (.int .i64 0)).setCell ⟨w.heap.size, 2, none⟩ (.int .i64 0) = W3 at T9 B9 ⊢
    have v0 := T9.out.c0
    have v1 := T9.out.c1
    have v2 := T9.out.c2
    dsimp only at v0 v1 v2
    refine bodyPost_ret (by simp [results, Try.results27, go_sem, v0, v1, v2]; try rfl) rfl ?_
    exact ⟨by rw [HR.out], B9.out⟩

def kindI (s : ByteArray) : Int := (wholeI s).1
theorem Kind_any (s : ByteArray) (hs : s.size ≤ 1125899906842624) (w : World) :
    Calls Try.prog 13 #[.string s] w fun e w' => e = .returned (.int .i64 (kindI s)) ∧ Below w.heap.size w w' := by
  have c0 := fun W => whole_any s hs W
  unfold kindI
  generalize wholeI s = r at c0 ⊢
  obtain ⟨k, e, p⟩ := r
  dsimp only at c0 ⊢
  have C0 := Lib.hid c0
  clear c0
  have hfd : ∀ W : World, (Instr.field 34 (.agg #[.int .i64 k, .int .i64 e, .int .i64 p]) 0).run Try.prog W = .ok (.int .i64 k) W := fun _ => by kernel_rfl
  go_enter Try.func13, Try.ntmps13
  go_wp2_with fail
  refine (C0.out _).mono ?_
  rintro e w1 ⟨rfl, hb1⟩
  have HB1 := Lib.hid hb1
  clear hb1
  go_wp2_with fail
  go_ret
  exact ⟨rfl, HB1.out⟩

def beginsB (s : ByteArray) (i k e : Int) : Bool := (scanI s i).1 == k && (scanI s i).2.1 == e
theorem begins_any (s : ByteArray) (i k e : Int) (hs : s.size ≤ 1125899906842624) (w : World) :
    Calls Try.prog 28 #[.string s, .int .i64 i, .int .i64 k, .int .i64 e] w fun x w' => x = .returned (.bool (beginsB s i k e)) ∧ Below w.heap.size w w' := by
  have c0 := fun W => Scan_any s i hs W
  unfold beginsB
  generalize scanI s i = r at c0 ⊢
  obtain ⟨k', e', p⟩ := r
  dsimp only at c0 ⊢
  have C0 := Lib.hid c0
  clear c0
  cases h1 : k' == k with
  | true =>
    go_enter Try.func28, Try.ntmps28
    go_wp2_with fail
    refine (C0.out _).mono ?_
    rintro x w1 ⟨rfl, hb1⟩
    have HB1 := Lib.hid hb1
    clear hb1
    go_wp2_with fail
    go_ret
    exact ⟨by simp, HB1.out⟩
  | false =>
    go_enter Try.func28, Try.ntmps28
    go_wp2_with fail
    refine (C0.out _).mono ?_
    rintro x w1 ⟨rfl, hb1⟩
    have HB1 := Lib.hid hb1
    clear hb1
    go_wp2_with fail
    go_ret
    exact ⟨by simp, HB1.out⟩

theorem cat_size (a b : ByteArray) : (a ++ b).size = a.size + b.size := by simp
def apartB (a b : ByteArray) : Bool := if kindI a = 0 ∨ kindI b = 0 then false else beginsB (a ++ b) 0 (kindI a) a.size && beginsB (a ++ b) a.size (kindI b) (a ++ b).size
theorem Apart_any (a b : ByteArray) (ha : a.size ≤ 281474976710656) (hb : b.size ≤ 281474976710656) (w : World) :
    Calls Try.prog 17 #[.string a, .string b] w fun x w' => x = .returned (.bool (apartB a b)) ∧ Below w.heap.size w w' := by
  have hz := cat_size a b
  have HZ : Hid ((a ++ b).size ≤ 1125899906842624) := by unfold Hid; omega
  have hr : apartB a b = if kindI a = 0 ∨ kindI b = 0 then false else beginsB (a ++ b) 0 (kindI a) a.size && beginsB (a ++ b) a.size (kindI b) (a ++ b).size := rfl
  have c1 := fun W => Kind_any a (by omega) W
  have c2 := fun W => Kind_any b (by omega) W
  generalize kindI a = k at c1 hr
  generalize kindI b = l at c2 hr
  have C1 := Lib.hid c1
  have C2 := Lib.hid c2
  clear c1 c2 hz
  by_cases h1 : k = 0
  · rw [if_pos (.inl h1)] at hr
    have HR := Lib.hid hr
    subst h1
    clear hr
    go_enter Try.func17, Try.ntmps17
    go_wp2_with fail
    refine (C1.out _).mono ?_
    rintro x w1 ⟨rfl, hb1⟩
    have HB1 := Lib.hid hb1
    clear hb1
    go_wp2_with fail
    refine (C2.out _).mono ?_
    rintro x w2 ⟨rfl, hb2⟩
    have HB2 := Lib.hid (HB1.out.trans (hb2.mono HB1.out.size))
    clear hb2
    go_wp2_with fail
    go_ret
    exact ⟨by rw [HR.out]; rfl, HB2.out⟩
  by_cases h2 : l = 0
  · rw [if_pos (.inr h2)] at hr
    have HR := Lib.hid hr
    have b1 : (k == 0) = false := by rw [beq_eq_false_iff_ne]; exact h1
    subst h2
    clear hr h1
    go_enter Try.func17, Try.ntmps17
    go_wp2_with fail
    refine (C1.out _).mono ?_
    rintro x w1 ⟨rfl, hb1⟩
    have HB1 := Lib.hid hb1
    clear hb1
    go_wp2_with fail
    refine (C2.out _).mono ?_
    rintro x w2 ⟨rfl, hb2⟩
    have HB2 := Lib.hid (HB1.out.trans (hb2.mono HB1.out.size))
    clear hb2
    go_wp2_with fail
    go_ret
    exact ⟨by rw [HR.out]; rfl, HB2.out⟩
  rw [if_neg (by omega)] at hr
  have b1 : (k == 0) = false := by rw [beq_eq_false_iff_ne]; exact h1
  have b2 : (l == 0) = false := by rw [beq_eq_false_iff_ne]; exact h2
  have c3 := fun W => begins_any (a ++ b) 0 k a.size HZ.out W
  have c4 := fun W => begins_any (a ++ b) a.size l (a ++ b).size HZ.out W
  have hz' : (((a ++ b).size : Nat) : Int) = (a.size : Int) + (b.size : Int) := by rw [cat_size]; rfl
  rw [hz'] at c4 hr
  clear hz'
  generalize beginsB (a ++ b) 0 k a.size = x1 at c3 hr
  generalize beginsB (a ++ b) a.size l ((a.size : Int) + (b.size : Int)) = x2 at c4 hr
  have HR := Lib.hid hr
  have C3 := Lib.hid c3
  have C4 := Lib.hid c4
  clear hr h1 h2 c3 c4
  cases x1 with
  | false =>
    go_enter Try.func17, Try.ntmps17
    go_wp2_with fail
    refine (C1.out _).mono ?_
    rintro x w1 ⟨rfl, hb1⟩
    have HB1 := Lib.hid hb1
    clear hb1
    go_wp2_with fail
    refine (C2.out _).mono ?_
    rintro x w2 ⟨rfl, hb2⟩
    have HB2 := Lib.hid (HB1.out.trans (hb2.mono HB1.out.size))
    clear hb2
    go_wp2_with fail
    refine (C3.out _).mono ?_
    rintro x w3 ⟨rfl, hb3⟩
    have HB3 := Lib.hid (HB2.out.trans (hb3.mono HB2.out.size))
    clear hb3
    go_wp2_with fail
    go_ret
    exact ⟨by rw [HR.out]; rfl, HB3.out⟩
  | true =>
    go_enter Try.func17, Try.ntmps17
    go_wp2_with fail
    refine (C1.out _).mono ?_
    rintro x w1 ⟨rfl, hb1⟩
    have HB1 := Lib.hid hb1
    clear hb1
    go_wp2_with fail
    refine (C2.out _).mono ?_
    rintro x w2 ⟨rfl, hb2⟩
    have HB2 := Lib.hid (HB1.out.trans (hb2.mono HB1.out.size))
    clear hb2
    go_wp2_with fail
    refine (C3.out _).mono ?_
    rintro x w3 ⟨rfl, hb3⟩
    have HB3 := Lib.hid (HB2.out.trans (hb3.mono HB2.out.size))
    clear hb3
    go_wp2_with fail
    refine (C4.out _).mono ?_
    rintro x w4 ⟨rfl, hb4⟩
    have HB4 := Lib.hid (HB3.out.trans (hb4.mono HB3.out.size))
    clear hb4
    go_wp2_with fail
    go_ret
    exact ⟨by rw [HR.out]; rfl, HB4.out⟩

/-- Split's answers. -/
def splitI (s : ByteArray) : ByteArray × ByteArray × Int :=
  if (wholeI s).1 = 3 ∨ (wholeI s).1 = 4 ∨ (wholeI s).1 = 7 ∨ (wholeI s).1 = 8 then (s.extract 0 (wholeI s).2.2.toNat, s.extract ((wholeI s).2.2.toNat + 1) s.size, 0)
  else if (wholeI s).1 = 1 ∨ (wholeI s).1 = 2 ∨ (wholeI s).1 = 5 ∨ (wholeI s).1 = 6 then (⟨#[]⟩, s, 0) else (⟨#[]⟩, ⟨#[]⟩, 30)
/-- What wholeI says of the row of bytes. -/
theorem wholeI_at (s : ByteArray) : wholeI s = if (scan (rest s 0)).1 = 0 ∨ (scan (rest s 0)).2.1 ≠ s.size then (0, 0, 0) else ((scan (rest s 0)).1, (s.size : Int), (((scan (rest s 0)).2.2 : Nat) : Int)) := by
  have h0 : scanI s 0 = lexI 0 (scan (rest s 0)) := by
    unfold scanI
    rw [if_pos (by omega)]
    rfl
  unfold wholeI
  rw [h0]
  generalize scan (rest s 0) = t
  obtain ⟨k, n, p⟩ := t
  dsimp only
  by_cases hk : k = 0
  · have e : lexI 0 (k, n, p) = (0, 0, 0) := by unfold lexI; rw [if_pos hk]
    rw [e, if_pos (Or.inl hk : k = 0 ∨ n ≠ s.size)]
    split <;> rfl
  · have e : lexI 0 (k, n, p) = (k, ((n : Nat) : Int), ((p : Nat) : Int)) := by
      unfold lexI
      rw [if_neg hk]
      dsimp only
      rw [Nat.zero_add, Nat.zero_add]
      congr 2
      split
      · rename_i q
        rw [q]
        rfl
      · rfl
    rw [e]
    dsimp only
    by_cases hn : n = s.size
    · rw [if_pos (by omega), if_neg (by omega), hn]
    · rw [if_neg (by omega), if_pos (Or.inr hn : k = 0 ∨ n ≠ s.size)]
theorem wholeI_point (s : ByteArray) (h : (wholeI s).1 = 3 ∨ (wholeI s).1 = 4 ∨ (wholeI s).1 = 7 ∨ (wholeI s).1 = 8) :
    ∃ p : Nat, (wholeI s).2.2 = (p : Int) ∧ 1 ≤ p ∧ p < s.size ∧ (scan (rest s 0)).1 = (wholeI s).1 ∧ (scan (rest s 0)).2.1 = s.size ∧ (scan (rest s 0)).2.2 = p := by
  rw [wholeI_at] at h ⊢
  by_cases q : (scan (rest s 0)).1 = 0 ∨ (scan (rest s 0)).2.1 ≠ s.size
  · rw [if_pos q] at h
    dsimp only at h
    omega
  · rw [if_neg q] at h ⊢
    dsimp only at h ⊢
    have hz := rest_len s 0
    have hn : (scan (rest s 0)).2.1 = (rest s 0).length := by omega
    obtain ⟨_, _, _, p1, p2, _⟩ := scan_parts (rest s 0) hn h
    exact ⟨_, rfl, p1, by omega, rfl, by omega, rfl⟩
set_option maxHeartbeats 1000000 in
theorem Split_any (s : ByteArray) (hs : s.size ≤ 1125899906842624) (w : World) :
    Calls Try.prog 15 #[.string s] w fun x w' => x = .returned (.tuple #[.string (splitI s).1, .string (splitI s).2.1, .int .i64 (splitI s).2.2]) ∧ Below w.heap.size w w' := by
  have c0 := fun W => whole_any s hs W
  have hp := wholeI_point s
  have hr : splitI s = if (wholeI s).1 = 3 ∨ (wholeI s).1 = 4 ∨ (wholeI s).1 = 7 ∨ (wholeI s).1 = 8 then (s.extract 0 (wholeI s).2.2.toNat, s.extract ((wholeI s).2.2.toNat + 1) s.size, 0)
    else if (wholeI s).1 = 1 ∨ (wholeI s).1 = 2 ∨ (wholeI s).1 = 5 ∨ (wholeI s).1 = 6 then (⟨#[]⟩, s, 0) else (⟨#[]⟩, ⟨#[]⟩, 30) := rfl
  generalize wholeI s = r at c0 hr hp
  obtain ⟨k, e, p⟩ := r
  dsimp only at c0 hr hp
  have C0 := Lib.hid c0
  clear c0
  by_cases h1 : k = 3 ∨ k = 4 ∨ k = 7 ∨ k = 8
  · obtain ⟨n, rfl, hn1, hn2, -⟩ := hp h1
    rw [if_pos h1, Int.toNat_natCast] at hr
    have HR := Lib.hid hr
    clear hr hp
    have i0 : (0 : Int) ≤ (n : Int) := by omega
    have i1 : (n : Int) ≤ (s.size : Int) := by omega
    rcases h1 with rfl | rfl | rfl | rfl
    · go_enter Try.func15, Try.ntmps15
      go_wp2_with fail
      refine (C0.out _).mono ?_
      rintro x w1 ⟨rfl, hb1⟩
      have HB1 := Lib.hid hb1
      clear hb1
      have NW := Trio.new w1 (3, e, (n : Int))
      have y0 := NW.c0
      have y1 := NW.c1
      have y2 := NW.c2
      dsimp only at y0 y1 y2
      clear NW
      go_wp2_with fail
      go_quiet (fail)
      go_wp2_with fail
      go_ret3
      exact ⟨by rw [HR.out]; rfl, below_drewN (HB1.out.trans (((Below.refl _ _).alloc (Nat.le_refl _) _).mono HB1.out.size)) _⟩
    · go_enter Try.func15, Try.ntmps15
      go_wp2_with fail
      refine (C0.out _).mono ?_
      rintro x w1 ⟨rfl, hb1⟩
      have HB1 := Lib.hid hb1
      clear hb1
      have NW := Trio.new w1 (4, e, (n : Int))
      have y0 := NW.c0
      have y1 := NW.c1
      have y2 := NW.c2
      dsimp only at y0 y1 y2
      clear NW
      go_wp2_with fail
      go_quiet (fail)
      go_wp2_with fail
      go_ret3
      exact ⟨by rw [HR.out]; rfl, below_drewN (HB1.out.trans (((Below.refl _ _).alloc (Nat.le_refl _) _).mono HB1.out.size)) _⟩
    · go_enter Try.func15, Try.ntmps15
      go_wp2_with fail
      refine (C0.out _).mono ?_
      rintro x w1 ⟨rfl, hb1⟩
      have HB1 := Lib.hid hb1
      clear hb1
      have NW := Trio.new w1 (7, e, (n : Int))
      have y0 := NW.c0
      have y1 := NW.c1
      have y2 := NW.c2
      dsimp only at y0 y1 y2
      clear NW
      go_wp2_with fail
      go_quiet (fail)
      go_wp2_with fail
      go_ret3
      exact ⟨by rw [HR.out]; rfl, below_drewN (HB1.out.trans (((Below.refl _ _).alloc (Nat.le_refl _) _).mono HB1.out.size)) _⟩
    · go_enter Try.func15, Try.ntmps15
      go_wp2_with fail
      refine (C0.out _).mono ?_
      rintro x w1 ⟨rfl, hb1⟩
      have HB1 := Lib.hid hb1
      clear hb1
      have NW := Trio.new w1 (8, e, (n : Int))
      have y0 := NW.c0
      have y1 := NW.c1
      have y2 := NW.c2
      dsimp only at y0 y1 y2
      clear NW
      go_wp2_with fail
      go_quiet (fail)
      go_wp2_with fail
      go_ret3
      exact ⟨by rw [HR.out]; rfl, below_drewN (HB1.out.trans (((Below.refl _ _).alloc (Nat.le_refl _) _).mono HB1.out.size)) _⟩
  rw [if_neg h1] at hr
  by_cases h2 : k = 1 ∨ k = 2 ∨ k = 5 ∨ k = 6
  · rw [if_pos h2] at hr
    have HR := Lib.hid hr
    clear hr hp h1
    rcases h2 with rfl | rfl | rfl | rfl
    · go_enter Try.func15, Try.ntmps15
      go_wp2_with fail
      refine (C0.out _).mono ?_
      rintro x w1 ⟨rfl, hb1⟩
      have HB1 := Lib.hid hb1
      clear hb1
      have NW := Trio.new w1 (1, e, p)
      have y0 := NW.c0
      have y1 := NW.c1
      have y2 := NW.c2
      dsimp only at y0 y1 y2
      clear NW
      go_wp2_with fail
      go_ret3
      exact ⟨by rw [HR.out]; rfl, HB1.out.trans (((Below.refl _ _).alloc (Nat.le_refl _) _).mono HB1.out.size)⟩
    · go_enter Try.func15, Try.ntmps15
      go_wp2_with fail
      refine (C0.out _).mono ?_
      rintro x w1 ⟨rfl, hb1⟩
      have HB1 := Lib.hid hb1
      clear hb1
      have NW := Trio.new w1 (2, e, p)
      have y0 := NW.c0
      have y1 := NW.c1
      have y2 := NW.c2
      dsimp only at y0 y1 y2
      clear NW
      go_wp2_with fail
      go_ret3
      exact ⟨by rw [HR.out]; rfl, HB1.out.trans (((Below.refl _ _).alloc (Nat.le_refl _) _).mono HB1.out.size)⟩
    · go_enter Try.func15, Try.ntmps15
      go_wp2_with fail
      refine (C0.out _).mono ?_
      rintro x w1 ⟨rfl, hb1⟩
      have HB1 := Lib.hid hb1
      clear hb1
      have NW := Trio.new w1 (5, e, p)
      have y0 := NW.c0
      have y1 := NW.c1
      have y2 := NW.c2
      dsimp only at y0 y1 y2
      clear NW
      go_wp2_with fail
      go_ret3
      exact ⟨by rw [HR.out]; rfl, HB1.out.trans (((Below.refl _ _).alloc (Nat.le_refl _) _).mono HB1.out.size)⟩
    · go_enter Try.func15, Try.ntmps15
      go_wp2_with fail
      refine (C0.out _).mono ?_
      rintro x w1 ⟨rfl, hb1⟩
      have HB1 := Lib.hid hb1
      clear hb1
      have NW := Trio.new w1 (6, e, p)
      have y0 := NW.c0
      have y1 := NW.c1
      have y2 := NW.c2
      dsimp only at y0 y1 y2
      clear NW
      go_wp2_with fail
      go_ret3
      exact ⟨by rw [HR.out]; rfl, HB1.out.trans (((Below.refl _ _).alloc (Nat.le_refl _) _).mono HB1.out.size)⟩
  · rw [if_neg h2] at hr
    have HR := Lib.hid hr
    have b1 : (k == 3) = false := by rw [beq_eq_false_iff_ne]; omega
    have b2 : (k == 4) = false := by rw [beq_eq_false_iff_ne]; omega
    have b3 : (k == 7) = false := by rw [beq_eq_false_iff_ne]; omega
    have b4 : (k == 8) = false := by rw [beq_eq_false_iff_ne]; omega
    have b5 : (k == 1) = false := by rw [beq_eq_false_iff_ne]; omega
    have b6 : (k == 2) = false := by rw [beq_eq_false_iff_ne]; omega
    have b7 : (k == 5) = false := by rw [beq_eq_false_iff_ne]; omega
    have b8 : (k == 6) = false := by rw [beq_eq_false_iff_ne]; omega
    clear hr hp h1 h2
    go_enter Try.func15, Try.ntmps15
    go_wp2_with fail
    refine (C0.out _).mono ?_
    rintro x w1 ⟨rfl, hb1⟩
    have HB1 := Lib.hid hb1
    clear hb1
    have NW := Trio.new w1 (k, e, p)
    have y0 := NW.c0
    have y1 := NW.c1
    have y2 := NW.c2
    dsimp only at y0 y1 y2
    clear NW
    go_wp2_with fail
    go_ret3
    exact ⟨by rw [HR.out]; rfl, HB1.out.trans (((Below.refl _ _).alloc (Nat.le_refl _) _).mono HB1.out.size)⟩
end Go.Proofs.Ytkabgeimcpkpgaa.Wrd
