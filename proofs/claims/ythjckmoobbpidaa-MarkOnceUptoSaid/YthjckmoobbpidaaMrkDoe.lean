/-
  The program's own Opens, Mark and Bare do what the structure Does tells; the laws' walks at arguments that weigh little.
-/
import Derived.Test.YthjckmoobbpidaaMrkMrk
import Derived.Test.YthjckmoobbpidaaPlcTrim
namespace Go.Proofs.Ythjckmoobbpidaa.Mrk
open Tks Go.RowKit
set_option linter.unusedSimpArgs false
set_option linter.unusedVariables false

theorem does : Does nlS Mx where
  keep := fun W W' h hb => h.below hb (Nat.le_refl _)
  opens := opens_any
  mark := fun v l W hM hA hS => (callsIn_wide.1 (markP_in 3 (Nat.le_refl _) v l hS W hM hA)).mono fun e w' h => by
    obtain ⟨r, he, ho, hb⟩ := h
    exact ⟨r, he, Tks.Own.arg ho, hb, Own.fits ho⟩
  bare := fun v l W hA hm => (callsIn_wide.1 (bareP_in Fence.wide 3 trivial trivial trivial rfl (Nat.le_refl _) v l hm W hA)).mono fun e w' h => by
    obtain ⟨r, he, ho, hb⟩ := h
    exact ⟨r, he, Tks.Own.arg ho, hb, Own.fits ho⟩
theorem linesLen (s : ByteArray) (hs : s.size ≤ 4294967280) : LinesLen nlS s := fun W => (Plc.refLines_any s (by omega) W).mono fun e w' h => by
  obtain ⟨v, rfl, ht, hb⟩ := h
  obtain ⟨a, c, rfl⟩ := own_len ht
  exact ⟨a, _, c, rfl, rfl, hb⟩
theorem fit_of (l : List Tk) (h : Small l) : Fit nlS l := ⟨h, fun t ht => linesLen t.text (h.2 t ht).1⟩
theorem opens_all (t : Tk) (W : World) (hM : Mx W) :
    Calls Try.prog 3 #[.agg #[.int .i64 t.kind, .string t.text, .int .i64 t.line, .int .i64 t.col]] W fun e w' => e = .returned (.bool true) ∧ Below W.heap.size W w' := opens_walk nlS Mx does t W hM
theorem marks_all (v : Value) (l : List Tk) (h : weigh l ≤ 1048576) (hw : ∀ t ∈ l, (Lit.int .i64 t.line).wf = true) (W : World) (hA : TkArg W v l) (hM : Mx W) :
    Calls Try.prog 4 #[v] W fun e w' => e = .returned (.bool true) ∧ Below W.heap.size W w' := marks_walk nlS Mx does v l W hA (fit_of l (small_of l h hw)) hM
theorem bares_all (v : Value) (l : List Tk) (h : l.length ≤ 3518437208879) (W : World) (hA : TkArg W v l) (hM : Mx W) :
    Calls Try.prog 5 #[v] W fun e w' => e = .returned (.bool true) ∧ Below W.heap.size W w' := bares_walk nlS Mx does v l W hA h hM
theorem back_all (v : Value) (l : List Tk) (h : weigh l ≤ 1048576) (hw : ∀ t ∈ l, (Lit.int .i64 t.line).wf = true) (W : World) (hA : TkArg W v l) (hM : Mx W) :
    Calls Try.prog 6 #[v] W fun e w' => e = .returned (.bool true) ∧ Below W.heap.size W w' := back_walk nlS Mx does v l W hA (small_of l h hw) hM
theorem once_all (v : Value) (l : List Tk) (h : weigh l ≤ 1048576) (hw : ∀ t ∈ l, (Lit.int .i64 t.line).wf = true) (W : World) (hA : TkArg W v l) (hM : Mx W) :
    Calls Try.prog 7 #[v] W fun e w' => e = .returned (.bool true) ∧ Below W.heap.size W w' := once_walk nlS Mx does v l W hA (small_of l h hw) hM
theorem none_all8 (v : Value) (ts : List ByteArray) (line col : Int) (h : weighS ts ≤ 1048576) (hw : (Lit.int .i64 line).wf = true) (W : World) (hA : StrArg W v ts) (hM : Mx W) :
    Calls Try.prog 8 #[v, .int .i64 line, .int .i64 col] W fun e w' => e = .returned (.bool true) ∧ Below W.heap.size W w' := none_walk nlS Mx does v ts line col W hA (small_vars line col ts h hw) hM
theorem toks_len {H : Type} {enc : TypeId × Value → H} {W : World} {base : Nat} {sp : Nat → Bool} {held : Bool} {fuel : Nat} {a0 : Option Addr} {len cap : Nat} {d : DataW H} {p : List MemPlace}
    (h : DataW.trod enc Try.prog W base sp held fuel 26 [.slice a0 len cap] = some (d, p)) : len = 0 ∨ ∃ E S, d = .slice E S ∧ E.length = len := by
  rcases Deep.open_slice Try.underlying26 h with ⟨hcs, hx⟩ | ⟨a, len', cap', m, n, D, Pl, hcs, _, hl, _, hm, hx, hi⟩
  · injection hcs with hcs _
    injection hcs with h1 h2 h3
    exact .inl h2
  · injection hcs with hcs _
    injection hcs with h1 h2 h3
    subst h2
    simp only [Prod.mk.injEq] at hx
    exact .inr ⟨_, _, hx.1, by simp⟩
theorem bytesTok : Try.prog.bytesOf 23 = 40 := by kernel_rfl
end Go.Proofs.Ythjckmoobbpidaa.Mrk
