/-
  What offsidelaw08's own awake answers, and its laws MarkOpens, MarkMarks, MarkBares and MarkBack, where the program's Opens, Mark and Bare do what is told of them by the structure Does. Conditions: at most 2^37 tokens, texts of at most 4294967280 bytes.
-/
import Derived.Test.YthjckmoobbpidaaMrkRfm
namespace Go.Proofs.Ythjckmoobbpidaa.Mrk
open Tks Go.RowKit
set_option linter.unusedSimpArgs false
set_option linter.unusedVariables false

/-- A slice's values do not go beyond its room. -/
def Fits (v : Value) : Prop := ∀ a n c, v = .slice a n c → n ≤ c
theorem Own.fits {w : World} {B : Nat} {v : Value} {l : List Tk} (h : Own w B v l) : Fits v := by
  intro a n c e
  rcases h.2 with ⟨rfl, h0⟩ | ⟨g, cap, cur, rfl, _, _, hnc, _⟩
  · injection e with e1 e2 e3
    omega
  · injection e with e1 e2 e3
    omega
def RowOut (W : World) (l : List Tk) (e : Ending) (w' : World) : Prop := ∃ r, e = .returned r ∧ TkArg w' r l ∧ Below W.heap.size W w' ∧ Fits r
def Small (l : List Tk) : Prop := l.length ≤ 137438953472 ∧ ∀ t ∈ l, t.text.size ≤ 4294967280 ∧ (Lit.int .i64 t.line).wf = true
/-- What the program's three functions do, in worlds of which M holds. -/
structure Does (nl : ByteArray → Int) (M : World → Prop) : Prop where
  keep : ∀ (W W' : World), M W → Below W.heap.size W W' → M W'
  opens : ∀ (t : Tk) (W : World), Calls Try.prog 10 #[.agg #[.int .i64 t.kind, .string t.text, .int .i64 t.line, .int .i64 t.col]] W fun e w' => e = .returned (.bool (opensT t)) ∧ Below W.heap.size W w'
  mark : ∀ (v : Value) (l : List Tk) (W : World), M W → TkArg W v l → Small l → Calls Try.prog 13 #[v] W (RowOut W (markL nl l))
  bare : ∀ (v : Value) (l : List Tk) (W : World), TkArg W v l → l.length ≤ 3518437208879 → Calls Try.prog 15 #[v] W (RowOut W (bareL l))
theorem after {w a b : World} (h : Below w.heap.size w a) (k : Below a.heap.size a b) : Below w.heap.size w b := h.trans (k.mono h.size)
theorem after_alloc {w b : World} {o : Obj} (h : Below (w.alloc o).heap.size (w.alloc o) b) : Below w.heap.size w b := after ((Below.refl _ _).alloc (Nat.le_refl _) o) h
def awX : Tk := ⟨1, ⟨#[120]⟩, 1, 1⟩
def awW : Tk := ⟨9, ⟨#[119, 104, 101, 114, 101]⟩, 1, 3⟩
theorem aw_mark (nl : ByteArray → Int) : markL nl [awX, awW] = [beginM awX, awX, awW, lastM] := rfl
theorem aw_bare : bareL [beginM awX, awX, awW, lastM] = [awX, awW] := rfl
theorem aw_small : Small [awX, awW] := by
  refine ⟨by decide, fun t ht => ?_⟩
  simp only [List.mem_cons, List.not_mem_nil, or_false] at ht
  rcases ht with rfl | rfl
  · exact ⟨by decide, by decide⟩
  · exact ⟨by decide, by decide⟩
theorem two_arg (w : World) (t u : Tk) (ty : TypeId) : TkArg (w.alloc (.cells #[.int .i64 t.kind, .string t.text, .int .i64 t.line, .int .i64 t.col, .int .i64 u.kind, .string u.text, .int .i64 u.line, .int .i64 u.col] ty)) (.slice (some ⟨w.heap.size, 0, none⟩) 2 2) [t, u] := by
  refine .inr ⟨w.heap.size, 0, 2, rfl, ?_, fun i x hx k hk => ?_⟩
  · rw [World.size_alloc]
    omega
  · rw [new_cell, Nat.zero_add]
    have hi := (List.getElem?_eq_some_iff.1 hx).1
    simp only [List.length_cons, List.length_nil] at hi
    rcases (by omega : i = 0 ∨ i = 1) with rfl | rfl
    · obtain rfl : t = x := by simpa using hx
      rcases (by omega : k = 0 ∨ k = 1 ∨ k = 2 ∨ k = 3) with rfl | rfl | rfl | rfl <;> rfl
    · obtain rfl : u = x := by simpa using hx
      rcases (by omega : k = 0 ∨ k = 1 ∨ k = 2 ∨ k = 3) with rfl | rfl | rfl | rfl <;> rfl
set_option maxRecDepth 100000 in
set_option maxHeartbeats 2000000 in
theorem awake_any (nl : ByteArray → Int) (M : World → Prop) (D : Does nl M) (w : World) (hM : M w) :
    Calls Try.prog 9 #[] w fun e w' => e = .returned (.bool true) ∧ Below w.heap.size w w' := by
  have C1 := Lib.hid D.mark
  have C2 := Lib.hid D.bare
  have C3 := Lib.hid D.opens
  have KM : Hid (∀ W', Below w.heap.size w W' → M W') := fun W' h => D.keep w W' hM h
  clear D hM
  go_enter Try.func9, Try.ntmps9
  go_wp2_with (first
    | (go_at_call 13; refine (C1.out _ [awX, awW] _ (KM.out _ ((Below.refl _ _).alloc (Nat.le_refl _) _)) (two_arg w awX awW _) aw_small).mono ?_; rintro e w1 ⟨r1, rfl, ha, hb, -⟩; rw [aw_mark] at ha; have HB := Lib.hid hb; clear hb; obtain ⟨g, o, c, e1, h1, h2⟩ := ha.cells (by decide); have e1 : r1 = .slice (some ⟨g, o, none⟩) 4 c := e1; subst e1; have HI : Hid (TkIn w1 g o [beginM awX, awX, awW, lastM]) := ⟨h1, h2⟩; have HA := Lib.hid ha; obtain ⟨a0, a1, a2, a3⟩ := HI.out.four 0 (beginM awX) rfl; obtain ⟨b0, b1, b2, b3⟩ := HI.out.four 3 lastM rfl; obtain ⟨c0, c1, c2, c3⟩ := HI.out.four 2 awW rfl; dsimp only [beginM, awX, awW, lastM, empty] at a0 a1 a2 a3 b0 b1 b2 b3 c0 c1 c2 c3; simp only [Nat.zero_mul, Nat.add_zero, Nat.reduceMul] at a0 a1 a2 a3 b0 b1 b2 b3 c0 c1 c2 c3; clear ha h1 h2)
    | (go_at_call 15; refine (C2.out _ _ _ HA.out (by decide)).mono ?_; rintro e w2 ⟨r2, rfl, ha2, hb2, -⟩; rw [aw_bare] at ha2; obtain ⟨p2, q2, e2⟩ := ha2.len; have e2 : r2 = .slice p2 2 q2 := e2; subst e2; have HB2 := Lib.hid hb2; have HI2 := Lib.hid (HI.out.below hb2 (Nat.le_refl _)); obtain ⟨d0, d1, d2, d3⟩ := HI2.out.four 2 awW rfl; dsimp only [awW] at d0 d1 d2 d3; simp only [Nat.reduceMul] at d0 d1 d2 d3; clear ha2 hb2)
    | (go_at_call 10; refine (C3.out awW _).mono ?_; rintro e w3 ⟨rfl, hb3⟩; have HB3 := Lib.hid hb3; clear hb3))
  go_ret
  exact ⟨rfl, after (after (after_alloc HB.out) HB2.out) HB3.out⟩
set_option maxRecDepth 100000 in
set_option maxHeartbeats 2000000 in
theorem opens_walk (nl : ByteArray → Int) (M : World → Prop) (D : Does nl M) (t : Tk) (w : World) (hM : M w) :
    Calls Try.prog 3 #[.agg #[.int .i64 t.kind, .string t.text, .int .i64 t.line, .int .i64 t.col]] w fun e w' => e = .returned (.bool true) ∧ Below w.heap.size w w' := by
  have C0 := Lib.hid (fun W h => awake_any nl M D W h)
  have KM : Hid (∀ W', Below w.heap.size w W' → M W') := fun W' h => D.keep w W' hM h
  have C1 := Lib.hid (fun W => D.opens t W)
  have C2 := Lib.hid (fun W => refopens_any t W)
  clear D hM
  have b0 : Below w.heap.size w (w.alloc (tkO t)) := (Below.refl _ _).alloc (Nat.le_refl _) _
  have kp : Hid (∀ w1, Below (w.alloc (tkO t)).heap.size (w.alloc (tkO t)) w1 → w1.cell? ⟨w.heap.size, 0, none⟩ = some (.int .i64 t.kind) ∧ w1.cell? ⟨w.heap.size, 1, none⟩ = some (.string t.text) ∧ w1.cell? ⟨w.heap.size, 2, none⟩ = some (.int .i64 t.line) ∧ w1.cell? ⟨w.heap.size, 3, none⟩ = some (.int .i64 t.col)) := by
    intro w1 hb
    have s1 : (w.alloc (tkO t)).heap.size = w.heap.size + 1 := Array.size_push _
    have k (j : Nat) : w1.cell? ⟨w.heap.size, j, none⟩ = (w.alloc (tkO t)).cell? ⟨w.heap.size, j, none⟩ := World.cell?_of_block (hb.block _ (by dsimp only; omega))
    exact ⟨(k 0).trans ((new_cell _ _ _ _).trans rfl), (k 1).trans ((new_cell _ _ _ _).trans rfl), (k 2).trans ((new_cell _ _ _ _).trans rfl), (k 3).trans ((new_cell _ _ _ _).trans rfl)⟩
  have B0 := Lib.hid b0
  clear b0
  go_enter Try.func3, Try.ntmps3
  go_wp2_with fail
  go_region_held3 (fun w' => w'.cell? ⟨w.heap.size, 0, none⟩ = some (.int .i64 t.kind) ∧ w'.cell? ⟨w.heap.size, 1, none⟩ = some (.string t.text) ∧ w'.cell? ⟨w.heap.size, 2, none⟩ = some (.int .i64 t.line) ∧ w'.cell? ⟨w.heap.size, 3, none⟩ = some (.int .i64 t.col)) (go_keep) (first
    | (go_at_call 9; refine (C0.out _ (KM.out _ (below_drewN B0.out _))).mono ?_; rintro e w1 ⟨rfl, hb1⟩; have b1 : Below (w.alloc (tkO t)).heap.size (w.alloc (tkO t)) w1 := undrew (n := 1) hb1; have B1 := Lib.hid b1; clear b1; obtain ⟨a0, a1, a2, a3⟩ := kp.out _ B1.out; clear hb1)
    | (go_at_call 10; refine (C1.out _).mono ?_; rintro e w2 ⟨rfl, hb2⟩; have B2 := Lib.hid (after B1.out hb2); obtain ⟨c0, c1, c2, c3⟩ := kp.out _ B2.out; clear hb2)
    | (go_at_call 11; refine (C2.out _).mono ?_; rintro e w3 ⟨rfl, hb3⟩; have B3 := Lib.hid (after B2.out hb3); obtain ⟨d0, d1, d2, d3⟩ := kp.out _ B3.out; clear hb3))
  all_goals go_wp2_with fail
  all_goals go_ret
  all_goals exact ⟨by simp, after B0.out B3.out⟩
/-- What the laws ask of the tokens. -/
structure Fit (nl : ByteArray → Int) (l : List Tk) : Prop where
  small : Small l
  lines : ∀ t ∈ l, LinesLen nl t.text
theorem markL_len (nl : ByteArray → Int) (l : List Tk) : (markL nl l).length ≤ 2 * l.length + 1 := (mark_len nl l).2
set_option maxRecDepth 100000 in
set_option maxHeartbeats 2000000 in
theorem marks_walk (nl : ByteArray → Int) (M : World → Prop) (D : Does nl M) (v : Value) (l : List Tk) (w : World) (ha : TkArg w v l) (F : Fit nl l) (hM : M w) :
    Calls Try.prog 4 #[v] w fun e w' => e = .returned (.bool true) ∧ Below w.heap.size w w' := by
  have C0 := Lib.hid (fun W h => awake_any nl M D W h)
  have KM : Hid (∀ W', Below w.heap.size w W' → M W') := fun W' h => D.keep w W' hM h
  have C1 := Lib.hid (fun W g h => D.mark v l W g h F.small)
  have C2 := Lib.hid (fun W h => refmark_any nl v l W F.lines h (Nat.le_trans F.small.1 (by decide)))
  have C3 := Lib.hid (fun va vb W h1 h2 => sameall_any va vb (markL nl l) W h1 h2 (by have := markL_len nl l; have := F.small.1; omega))
  have HA := Lib.hid ha
  clear D F ha hM
  go_enter Try.func4, Try.ntmps4
  go_wp2_with (first
    | (go_at_call 9; refine (C0.out _ (KM.out _ (Below.refl _ _))).mono ?_; rintro e w1 ⟨rfl, hb1⟩; have B1 := Lib.hid hb1; have A1 := Lib.hid (HA.out.below hb1 (Nat.le_refl _)); clear hb1)
    | (go_at_call 13; refine (C1.out _ (KM.out _ B1.out) A1.out).mono ?_; rintro e w2 ⟨r2, rfl, hr2, hb2, -⟩; have B2 := Lib.hid (after B1.out hb2); have R2 := Lib.hid hr2; have A2 := Lib.hid (HA.out.below B2.out (Nat.le_refl _)); clear hb2 hr2)
    | (go_at_call 14; refine (C2.out _ A2.out).mono ?_; rintro e w3 ⟨r3, rfl, hr3, hb3⟩; have B3 := Lib.hid (after B2.out hb3); have R3 := Lib.hid hr3.arg; have R23 := Lib.hid (R2.out.below hb3 (Nat.le_refl _)); clear hb3 hr3)
    | (go_at_call 12; refine (C3.out _ _ _ R23.out R3.out).mono ?_; rintro e w4 ⟨rfl, hb4⟩; have B4 := Lib.hid (after B3.out hb4); clear hb4))
  go_ret
  exact ⟨rfl, B4.out⟩
set_option maxRecDepth 100000 in
set_option maxHeartbeats 2000000 in
theorem bares_walk (nl : ByteArray → Int) (M : World → Prop) (D : Does nl M) (v : Value) (l : List Tk) (w : World) (ha : TkArg w v l) (hl : l.length ≤ 3518437208879) (hM : M w) :
    Calls Try.prog 5 #[v] w fun e w' => e = .returned (.bool true) ∧ Below w.heap.size w w' := by
  have C0 := Lib.hid (fun W h => awake_any nl M D W h)
  have KM : Hid (∀ W', Below w.heap.size w W' → M W') := fun W' h => D.keep w W' hM h
  have C1 := Lib.hid (fun W h => D.bare v l W h hl)
  have C2 := Lib.hid (fun W h => refbare_any v l W h hl)
  have C3 := Lib.hid (fun va vb W h1 h2 => sameall_any va vb (bareL l) W h1 h2 (by have := bareL_len l; omega))
  have HA := Lib.hid ha
  clear D hl ha hM
  go_enter Try.func5, Try.ntmps5
  go_wp2_with (first
    | (go_at_call 9; refine (C0.out _ (KM.out _ (Below.refl _ _))).mono ?_; rintro e w1 ⟨rfl, hb1⟩; have B1 := Lib.hid hb1; have A1 := Lib.hid (HA.out.below hb1 (Nat.le_refl _)); clear hb1)
    | (go_at_call 15; refine (C1.out _ A1.out).mono ?_; rintro e w2 ⟨r2, rfl, hr2, hb2, -⟩; have B2 := Lib.hid (after B1.out hb2); have R2 := Lib.hid hr2; have A2 := Lib.hid (HA.out.below B2.out (Nat.le_refl _)); clear hb2 hr2)
    | (go_at_call 16; refine (C2.out _ A2.out).mono ?_; rintro e w3 ⟨r3, rfl, hr3, hb3⟩; have B3 := Lib.hid (after B2.out hb3); have R3 := Lib.hid hr3.arg; have R23 := Lib.hid (R2.out.below hb3 (Nat.le_refl _)); clear hb3 hr3)
    | (go_at_call 12; refine (C3.out _ _ _ R23.out R3.out).mono ?_; rintro e w4 ⟨rfl, hb4⟩; have B4 := Lib.hid (after B3.out hb4); clear hb4))
  go_ret
  exact ⟨rfl, B4.out⟩
end Go.Proofs.Ythjckmoobbpidaa.Mrk
