/-
  An argument that is a state, as the rows read it. No condition.
-/
import Derived.Test.YtmgclgojmckfhaaZTk
import Derived.Deep.DeepHandedRow
namespace Go.Proofs.Ytmgclgojmckfhaa.Lay
open Tks Mrk Go.RowKit
set_option linter.unusedSimpArgs false
set_option linter.unusedVariables false

theorem open_ints {H : Type} {enc : TypeId × Value → H} {W : World} {base : Nat} {sp : Nat → Bool} {held : Bool} {fuel : Nat} {a0 : Option Addr} {len cap : Nat} {d : DataW H} {p : List MemPlace}
    (h : DataW.trod enc Try.prog W base sp held fuel 23 [.slice a0 len cap] = some (d, p)) (hlt : ∀ y ∈ p, y.block < W.heap.size) : ∃ l : List Int, IntArg W (.slice a0 len cap) l := by
  rcases Deep.open_slice Try.underlying23 h with ⟨hcs, hx⟩ | ⟨a, len', cap', m, n, D, Pl, hcs, _, hl, _, hm, hx, hi⟩
  · injection hcs with hcs _
    injection hcs with h1 h2 h3
    subst h1 h2 h3
    exact ⟨[], .inl ⟨rfl, _, _, rfl⟩⟩
  · injection hcs with hcs _
    injection hcs with h1 h2 h3
    subst h1 h2 h3
    rw [cellsIntT] at hi
    have hlm : len ≤ m := by rw [hm]; split <;> omega
    obtain ⟨l, hll, hp⟩ := list_of (n := len) (P := fun i (z : Int) => W.cell? (a.add i) = some (.int .i64 z)) (by
      intro i hil
      obtain ⟨cs', hc, ht⟩ := hi i (by omega)
      obtain ⟨z, e1, g1, _⟩ := DataW.trod_int Try.underlying3 ht
      obtain ⟨_, _, hat⟩ := World.cells?_some hc
      refine ⟨z, ?_⟩
      have h0 := hat 0 (by omega)
      rw [Deep.add_add, e1] at h0
      simpa using h0)
    refine ⟨l, ?_⟩
    by_cases hl0 : len = 0
    · subst hl0
      obtain rfl : l = [] := List.eq_nil_of_length_eq_zero hll
      exact .inl ⟨rfl, _, _, rfl⟩
    · obtain ⟨z0, hz0⟩ : ∃ z, l[0]? = some z := ⟨_, List.getElem?_eq_getElem (by omega)⟩
      have hc0 := hp 0 z0 hz0
      obtain ⟨b, off, spot⟩ := a
      have hspot : spot = none := by
        simpa [Addr.add] using World.cell?_spot hc0
      subst hspot
      have hbW : b < W.heap.size := by
        simp only [Prod.mk.injEq] at hx
        refine hlt (.cell b off) ?_
        rw [hx.2]
        exact List.mem_append_left _ (MemPlace.mem_row.2 ⟨0, by rw [cellsIntT]; omega, by simp⟩)
      refine .inr ⟨b, off, cap, by rw [hll], by omega, hbW, fun i z hz => ?_⟩
      have := hp i z hz
      rw [← this]
      have e : (⟨b, off, none⟩ : Addr).add i = ⟨b, off + i, none⟩ := by
        unfold Addr.add
        split <;> simp_all
      rw [e]
theorem cellsState : Try.prog.cellsOf 25 = 4 := by kernel_rfl
theorem cellsTokS : Try.prog.cellsOf 22 = 1 := by kernel_rfl
theorem cellsIntS : Try.prog.cellsOf 23 = 1 := by kernel_rfl
theorem slice_of {H : Type} {enc : TypeId × Value → H} {W : World} {base : Nat} {sp : Nat → Bool} {held : Bool} {fuel : Nat} {t e : TypeId} {c : Value} {x : DataW H × List MemPlace} (ht : Try.prog.underlying t = some (.slice e))
    (h : DataW.trod enc Try.prog W base sp held fuel t [c] = some x) : ∃ a n m, c = .slice a n m := by
  rcases Deep.open_slice ht h with ⟨hcs, _⟩ | ⟨a, len', cap', m, n, D, Pl, hcs, _⟩
  · injection hcs with hcs _
    exact ⟨_, _, _, hcs⟩
  · injection hcs with hcs _
    exact ⟨_, _, _, hcs⟩
set_option maxRecDepth 1000000 in
theorem open_state {H : Type} {enc : TypeId × Value → H} {W : World} {base : Nat} {sp : Nat → Bool} {held : Bool} {n : Nat} {cs : List Value} {d : DataW H} {p : List MemPlace}
    (h : DataW.trod enc Try.prog W base sp held n 25 cs = some (d, p)) (hlt : ∀ y ∈ p, y.block < W.heap.size) :
    ∃ (s : Sx) (vt vo : Value), cs = [vt, .int .i64 s.at_, vo, .int .i64 s.wait] ∧ TkArg W vt s.toks ∧ IntArg W vo s.opn := by
  obtain ⟨xs, m, _, hx, hlen, hxl, hf⟩ := DataW.trod_struct Try.underlying25 h
  rw [cellsState] at hlen
  have h0 := hf 0 _ rfl
  have h1 := hf 1 _ rfl
  have h2 := hf 2 _ rfl
  have h3 := hf 3 _ rfl
  match cs, hlen with
  | [c0, c1, c2, c3], _ =>
    match xs, hxl with
    | [y0, y1, y2, y3], _ =>
      simp only [cellsTokS, cellsIntS, cellsIntT, List.drop_zero, List.drop_succ_cons, List.take_succ_cons, List.take_zero, List.getElem?_cons_zero, List.getElem?_cons_succ] at h0 h1 h2 h3
      obtain ⟨i, e1, g1, _⟩ := DataW.trod_int Try.underlying3 h1
      obtain ⟨w, e3, g3, _⟩ := DataW.trod_int Try.underlying3 h3
      obtain ⟨a0, n0, k0, rfl⟩ := slice_of Try.underlying22 h0
      obtain ⟨a2, n2, k2, rfl⟩ := slice_of Try.underlying23 h2
      simp only [Prod.mk.injEq] at hx
      have hmem : ∀ y ∈ y0.2, y ∈ p := fun y hy => by rw [hx.2]; simp [hy]
      have hmem2 : ∀ y ∈ y2.2, y ∈ p := fun y hy => by rw [hx.2]; simp [hy]
      obtain ⟨l, hl, -, -⟩ := open_toks h0 (fun y hy => hlt y (hmem y hy))
      obtain ⟨o, ho⟩ := open_ints h2 (fun y hy => hlt y (hmem2 y hy))
      injection e1 with e1 _
      injection e3 with e3 _
      exact ⟨⟨l, i, o, w⟩, _, _, by rw [e1, e3], hl, ho⟩
end Go.Proofs.Ytmgclgojmckfhaa.Lay
