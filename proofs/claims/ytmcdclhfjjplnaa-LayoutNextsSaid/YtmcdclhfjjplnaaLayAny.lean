/-
  The document's own Next and All at any states and rows. Conditions: at most 2^40 tokens and blocks; All at most 3000.
-/
import Derived.Test.YtmcdclhfjjplnaaLayAll
import Derived.Test.YtmcdclhfjjplnaaLayNxm
namespace Go.Proofs.Ytmcdclhfjjplnaa.Lay
open Tks Mrk Go.RowKit
set_option linter.unusedSimpArgs false
set_option linter.unusedVariables false

theorem refnext_is : RefNext := by
  intro vt vo s W ht ho hf i hi hok
  obtain ⟨toks, a, o, wt⟩ := s
  dsimp only at hi ht ho hok ⊢
  subst hi
  refine (refnext_ok vt vo toks i o wt W ht ho hf.1 hf.2 hok).mono ?_
  rintro e w' ⟨v, rfl, ⟨vo', rfl, h1, h2, h3⟩, hb⟩
  refine ⟨vo', rfl, h2, ?_, hb⟩
  rcases h3 with h3 | h3
  · rw [h3]
    exact From.same _ _
  · exact From.above h3
theorem refnext_any (v : Value) (s : Sx) (w : World) (hv : StV w v s) (hf : Fit9 s) : Calls Try.prog 12 #[v] w (NextOut w s) := by
  cases hk : okB s with
  | false => exact refnext_not v s w hv hf hk
  | true =>
    obtain ⟨vt, vo, rfl, ht, ho⟩ := hv
    obtain ⟨i, hi, hok⟩ := (okB_iff s).1 hk
    obtain ⟨toks, a, o, wt⟩ := s
    dsimp only at hi ht ho hok ⊢
    subst hi
    refine (refnext_ok vt vo toks i o wt w ht ho hf.1 hf.2 hok).mono ?_
    rintro e w' ⟨v, rfl, h, hb⟩
    unfold NextOut nextS
    rw [if_pos hk]
    exact ⟨v, rfl, h.st, hb⟩
theorem refall9 (v : Value) (l : List Tk) (w : World) (hv : TkArg w v l) (hl : l.length ≤ 3000) : Calls Try.prog 17 #[v] w (AllOut w l) := refall_any refnext_is v l w hv hl
end Go.Proofs.Ytmcdclhfjjplnaa.Lay
