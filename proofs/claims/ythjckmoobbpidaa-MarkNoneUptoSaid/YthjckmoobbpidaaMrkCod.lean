/-
  The program's own mark.Opens, before, newlines, beginsBlock and beginsLine at any tokens. Conditions: texts of at most 4294967280 bytes; some variable of the library's own holds some number.
-/
import Derived.Test.YthjckmoobbpidaaMrkOpn
import Derived.Test.YthjckmoobbpidaaMrkCnt
import Derived.Test.YthjckmoobbpidaaShf
import Derived.OpenShut
namespace Go.Proofs.Ythjckmoobbpidaa.Mrk
open Tks Plc Go.RowKit
set_option linter.unusedSimpArgs false
set_option linter.unusedVariables false

/-- Some variable of the library's own holds some number. -/
def Mx (w : World) : Prop := ∃ m, w.cell? ⟨Try.laysM138_ren.g 1, 0, none⟩ = some (.int .i64 m)
theorem Mx.below {w w' : World} {B : Nat} (h : Mx w) (hb : Below B w w') (hB : w.heap.size ≤ B) : Mx w' := by
  obtain ⟨m, hm⟩ := h
  exact ⟨m, by rw [hb.cell (Nat.lt_of_lt_of_le (World.block_lt_of_cell? _ _ hm) hB)]; exact hm⟩
theorem Mx.of_shape {w : World} (h : w.ShapedOpen Try.prog) : Mx w := Try.laysM138.s1_3 w h

theorem opens_any (t : Tk) (w : World) :
    Calls Try.prog 10 #[.agg #[.int .i64 t.kind, .string t.text, .int .i64 t.line, .int .i64 t.col]] w fun e w' => e = .returned (.bool (opensT t)) ∧ Below w.heap.size w w' := by
  have HS : Hid (opensT t = (t.kind == 9 && (tx t == [108, 101, 116] || tx t == [119, 104, 101, 114, 101] || tx t == [100, 111] || tx t == [111, 102]))) := rfl
  have HT : Hid (tx t = t.text.data.toList) := rfl
  go_enter Try.func10, Try.ntmps10
  go_wp2
  all_goals go_ret
  all_goals refine ⟨?_, by go_grown⟩
  all_goals rw [HS.out]
  all_goals refine congrArg (fun b : Bool => Ending.returned (Value.bool b)) ?_
  all_goals rw [HT.out]
  all_goals (try simp only [Lib.toList_data] at *)
  all_goals (first | (simp [*]; done) | simp_all)
theorem before_any (t : Tk) (k : Int) (w : World) :
    Calls Try.prog 19 #[.agg #[.int .i64 t.kind, .string t.text, .int .i64 t.line, .int .i64 t.col], .int .i64 k] w fun e w' => e = .returned (.agg #[.int .i64 k, .string ⟨#[]⟩, .int .i64 t.line, .int .i64 t.col]) ∧ Below w.heap.size w w' := by
  go_enter Try.func19, Try.ntmps19
  go_wp2
  go_returns
  exact ⟨rfl, by go_grown⟩
set_option maxHeartbeats 1000000 in
theorem newlines_walk (s : ByteArray) (w : World) (z : Int) (p a b c : Nat) (HN : Hid (wrap64 (wrap64 (wrap64 (a + b) + c) - p) = z)) 
  (C1 : Hid (Calls Try.prog 26 #[.string s, .string ⟨#[13]⟩] w fun e w' => e = .returned (.int .i64 (a)) ∧ w' = w))
  (C3 : Hid (Calls Try.prog 26 #[.string s, .string ⟨#[10]⟩] w fun e w' => e = .returned (.int .i64 (b)) ∧ w' = w))
  (C4 : Hid (Calls Try.prog 26 #[.string s, .string ⟨#[12]⟩] w fun e w' => e = .returned (.int .i64 (c)) ∧ w' = w))
  (C2 : Hid (Calls Try.prog 26 #[.string s, .string ⟨#[13, 10]⟩] w fun e w' => e = .returned (.int .i64 p) ∧ w' = w)) :
    Calls Try.prog 24 #[.string s] w fun e w' => e = .returned (.int .i64 z) ∧ w' = w := by
  go_enter Try.func24, Try.ntmps24
  go_wp2_with (first
    | (go_at_call 26; refine C1.out.mono ?_; rintro e w1 ⟨rfl, rfl⟩; clear C1)
    | (go_at_call 26; refine C3.out.mono ?_; rintro e w1 ⟨rfl, rfl⟩; clear C3)
    | (go_at_call 26; refine C4.out.mono ?_; rintro e w1 ⟨rfl, rfl⟩; clear C4)
    | (go_at_call 26; refine C2.out.mono ?_; rintro e w1 ⟨rfl, rfl⟩; clear C2))
  go_ret
  rw [← HN.out]
  exact ⟨rfl, rfl⟩
theorem newlines_any (s : ByteArray) (hs : s.size ≤ 4294967280) (w : World) (hM : Mx w) :
    Calls Try.prog 24 #[.string s] w fun e w' => e = .returned (.int .i64 (nlS s)) ∧ w' = w := by
  obtain ⟨m, hm⟩ := hM
  exact newlines_walk s w _ _ _ _ _ (nl_counts s hs) (Any.strings_Count_one Try.lays138 s 13 w) (Any.strings_Count_one Try.lays138 s 10 w) (Any.strings_Count_one Try.lays138 s 12 w) (Any.strings_Count Try.lays138 s ⟨#[13, 10]⟩ m w (by omega) hm (Nat.le_refl _))

/-- A pointer to a token that lies in the heap. -/
def PtrTo (w : World) (v : Value) (t : Tk) : Prop := ∃ b off, v = .pointer (some ⟨b, off, none⟩) ∧ b < w.heap.size ∧ ∀ k : Nat, k < 4 → w.cell? ⟨b, off + k, none⟩ = (tkC t)[k]?
theorem PtrTo.four {w : World} {v : Value} {t : Tk} (h : PtrTo w v t) : ∃ b off, v = .pointer (some ⟨b, off, none⟩) ∧ b < w.heap.size ∧
    w.cell? ⟨b, off, none⟩ = some (.int .i64 t.kind) ∧ w.cell? ⟨b, off + 1, none⟩ = some (.string t.text) ∧ w.cell? ⟨b, off + 2, none⟩ = some (.int .i64 t.line) ∧ w.cell? ⟨b, off + 3, none⟩ = some (.int .i64 t.col) := by
  obtain ⟨b, off, e, hb, h⟩ := h
  exact ⟨b, off, e, hb, h 0 (by omega), h 1 (by omega), h 2 (by omega), h 3 (by omega)⟩
theorem blockNil_any (t : Tk) (w : World) :
    Calls Try.prog 18 #[.agg #[.int .i64 t.kind, .string t.text, .int .i64 t.line, .int .i64 t.col], .pointer none] w fun e w' => e = .returned (.bool (!braceT t && !moduleT t)) ∧ Below w.heap.size w w' := by
  have HS : Hid (braceT t = (t.kind == 15 && tx t == [123])) := rfl
  have HR : Hid (moduleT t = (t.kind == 9 && tx t == [109, 111, 100, 117, 108, 101])) := rfl
  have HT : Hid (tx t = t.text.data.toList) := rfl
  go_enter Try.func18, Try.ntmps18
  go_wp2
  all_goals go_ret
  all_goals refine ⟨?_, by go_grown⟩
  all_goals rw [HS.out, HR.out]
  all_goals refine congrArg (fun b : Bool => Ending.returned (Value.bool b)) ?_
  all_goals rw [HT.out]
  all_goals (try simp only [Lib.toList_data] at *)
  all_goals (first | (simp [*]; done) | simp_all)
set_option maxHeartbeats 1000000 in
theorem blockSome_any (t u : Tk) (v : Value) (w : World) (hv : PtrTo w v u) :
    Calls Try.prog 18 #[.agg #[.int .i64 t.kind, .string t.text, .int .i64 t.line, .int .i64 t.col], v] w fun e w' => e = .returned (.bool (!braceT t && opensT u)) ∧ Below w.heap.size w w' := by
  have HS : Hid (braceT t = (t.kind == 15 && tx t == [123])) := rfl
  have HT : Hid (tx t = t.text.data.toList) := rfl
  obtain ⟨b, off, rfl, hb, a0, a1, a2, a3⟩ := hv.four
  clear hv
  have C := Lib.hid (fun W => opens_any u W)
  have ne : ¬ b = w.heap.size := by omega
  have hb1 : b < (w.alloc (tkO t)).heap.size := by rw [World.size_alloc]; omega
  have c0 := (World.cell?_alloc_lt w (o := tkO t) (a := ⟨b, off, none⟩) hb).trans a0
  have c1 := (World.cell?_alloc_lt w (o := tkO t) (a := ⟨b, off + 1, none⟩) hb).trans a1
  have c2 := (World.cell?_alloc_lt w (o := tkO t) (a := ⟨b, off + 2, none⟩) hb).trans a2
  have c3 := (World.cell?_alloc_lt w (o := tkO t) (a := ⟨b, off + 3, none⟩) hb).trans a3
  unfold tkO at c0 c1 c2 c3
  go_enter Try.func18, Try.ntmps18
  go_wp2_with (first
    | (go_at_call 10; refine (C.out _).mono ?_; rintro e w1 ⟨rfl, hb1⟩; have HB := Lib.hid hb1; clear hb1))
  all_goals go_ret
  all_goals refine ⟨?_, by first | exact after_alloc HB.out | exact ((Below.refl _ _).alloc (Nat.le_refl _) _) | go_grown⟩
  all_goals rw [HS.out]
  all_goals refine congrArg (fun b : Bool => Ending.returned (Value.bool b)) ?_
  all_goals rw [HT.out]
  all_goals (try simp only [Lib.toList_data] at *)
  all_goals (first | (simp [*]; done) | simp_all)
theorem lineNil_any (t : Tk) (w : World) :
    Calls Try.prog 20 #[.agg #[.int .i64 t.kind, .string t.text, .int .i64 t.line, .int .i64 t.col], .pointer none] w fun e w' => e = .returned (.bool true) ∧ Below w.heap.size w w' := by
  go_enter Try.func20, Try.ntmps20
  go_wp2
  go_quiet (fail)
  go_wp2
  go_ret
  exact ⟨rfl, below_drewN ((Below.refl _ _).alloc (Nat.le_refl _) _) _⟩
theorem fresh_is (t u : Tk) (hs : u.text.size ≤ 4294967280) (h1 : (Lit.int .i64 t.line).wf = true) (h2 : (Lit.int .i64 u.line).wf = true) :
    freshT nlS u t = (t.line != u.line && t.line != wrap64 (u.line + nlS u.text)) := by
  unfold freshT
  have hr := nlS_range u.text hs
  generalize nlS u.text = n at hr ⊢
  have a1 := bounds_i64 h1
  have a2 := bounds_i64 h2
  generalize t.line = x at *
  generalize u.line = y at *
  congr 1
  rw [Bool.eq_iff_iff, bne_iff_ne, bne_iff_ne]
  unfold wrap64
  omega
set_option maxRecDepth 100000 in
set_option maxHeartbeats 2000000 in
theorem lineSome_any (t u : Tk) (v : Value) (w : World) (hM : Mx w) (hs : u.text.size ≤ 4294967280) (h1 : (Lit.int .i64 t.line).wf = true) (h2 : (Lit.int .i64 u.line).wf = true) (hv : PtrTo w v u) :
    Calls Try.prog 20 #[.agg #[.int .i64 t.kind, .string t.text, .int .i64 t.line, .int .i64 t.col], v] w fun e w' => e = .returned (.bool (freshT nlS u t)) ∧ Below w.heap.size w w' := by
  rw [fresh_is t u hs h1 h2]
  clear h1 h2
  obtain ⟨b, off, rfl, hb, a0, a1, a2, a3⟩ := hv.four
  clear hv a0 a3
  have b0 : Below w.heap.size w (w.alloc (tkO t)) := (Below.refl _ _).alloc (Nat.le_refl _) _
  have C : Hid (∀ W, Below w.heap.size w W → Calls Try.prog 24 #[.string u.text] W fun e w' => e = .returned (.int .i64 (nlS u.text)) ∧ w' = W) := fun W h => newlines_any u.text hs W (hM.below h (Nat.le_refl _))
  have c1 := (World.cell?_alloc_lt w (o := tkO t) (a := ⟨b, off + 1, none⟩) hb).trans a1
  have c2 := (World.cell?_alloc_lt w (o := tkO t) (a := ⟨b, off + 2, none⟩) hb).trans a2
  have B0 := Lib.hid b0
  generalize nlS u.text = n at C ⊢
  unfold tkO at c1 c2 B0
  clear b0 hs hM
  have ne : ¬ b = w.heap.size := by omega
  obtain ⟨tk, tt, tl, tc⟩ := t
  obtain ⟨uk, ut, ul, uc⟩ := u
  dsimp only at *
  by_cases h : tl = ul
  · have x : (tl != ul) = false := by rw [bne_eq_false_iff_eq]; exact h
    rw [x, Bool.false_and]
    clear h
    go_enter Try.func20, Try.ntmps20
    go_wp2_with fail
    go_quiet (fail)
    go_wp2_with fail
    go_ret
    exact ⟨rfl, below_drewN B0.out _⟩
  · have x : (tl != ul) = true := by rw [bne_iff_ne]; exact h
    rw [x, Bool.true_and]
    clear h
    go_enter Try.func20, Try.ntmps20
    go_wp2_with fail
    go_region_held3 (fun w' => w'.cell? ⟨b, off + 1, none⟩ = some (.string ut) ∧ w'.cell? ⟨b, off + 2, none⟩ = some (.int .i64 ul) ∧ w'.cell? ⟨w.heap.size, 2, none⟩ = some (.int .i64 tl)) (go_keep) (first
      | (go_at_call 24; refine (C.out _ (below_drewN B0.out _)).mono ?_; rintro e w1 ⟨rfl, rfl⟩))
    all_goals go_wp2_with fail
    all_goals go_ret
    all_goals exact ⟨by rw [IntWalk.i64_left]; rfl, below_drewN B0.out _⟩
end Go.Proofs.Ythjckmoobbpidaa.Mrk
