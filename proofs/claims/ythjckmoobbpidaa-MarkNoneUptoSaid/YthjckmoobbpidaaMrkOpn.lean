/-
  What the row's reading says of an argument that is a slice of texts, and of one that is a token: the texts and the token that are read. No condition.
-/
import Derived.Test.YthjckmoobbpidaaMrkNon
namespace Go.Proofs.Ythjckmoobbpidaa.Mrk
open Tks Go.RowKit
set_option linter.unusedSimpArgs false
set_option linter.unusedVariables false

/-- What texts weigh. -/
def weighS (l : List ByteArray) : Nat := (l.map fun s => s.size + 1).sum
theorem weighS_len (l : List ByteArray) : l.length ≤ weighS l := by
  unfold weighS
  induction l with
  | nil => exact Nat.le_refl _
  | cons t r ih =>
    rw [List.map_cons, List.sum_cons, List.length_cons]
    omega
theorem weighS_mem {l : List ByteArray} {s : ByteArray} (h : s ∈ l) : s.size ≤ weighS l := by
  induction l with
  | nil => cases h
  | cons t r ih =>
    unfold weighS
    rw [List.map_cons, List.sum_cons]
    rcases List.mem_cons.1 h with rfl | h
    · omega
    · have := ih h
      unfold weighS at this
      omega
theorem weigh_mem {l : List Tk} {t : Tk} (h : t ∈ l) : t.text.size ≤ weigh l := by
  induction l with
  | nil => cases h
  | cons u r ih =>
    unfold weigh
    rw [List.map_cons, List.sum_cons]
    rcases List.mem_cons.1 h with rfl | h
    · omega
    · have := ih h
      unfold weigh at this
      omega
/-- What weighs little enough is small enough. -/
theorem small_of (l : List Tk) (h : weigh l ≤ 1048576) (hw : ∀ t ∈ l, (Lit.int .i64 t.line).wf = true) : Small l :=
  ⟨Nat.le_trans (weigh_len l) (Nat.le_trans h (by decide)), fun t ht => ⟨Nat.le_trans (weigh_mem ht) (Nat.le_trans h (by decide)), hw t ht⟩⟩
theorem small_vars (line col : Int) (ts : List ByteArray) (h : weighS ts ≤ 1048576) (hw : (Lit.int .i64 line).wf = true) : Small (varsOf line col ts) := by
  refine ⟨by rw [vars_len]; exact Nat.le_trans (weighS_len ts) (Nat.le_trans h (by decide)), fun t ht => ?_⟩
  obtain ⟨s, hs, rfl⟩ := List.mem_map.1 ht
  exact ⟨Nat.le_trans (weighS_mem hs) (Nat.le_trans h (by decide)), hw⟩
theorem bulk_str {H : Type} (s : ByteArray) : s.size + 1 ≤ Rows.uptoBulk (.lit (.string s.data.toList) : DataW H) := by
  simp only [Rows.uptoBulk, Rows.uptoBulkAll]
  rw [Lib.size_eq]
  omega
theorem bulk_strs {H : Type} : ∀ (l : List ByteArray) (ds : List (DataW H)), ds = l.map (fun s => .lit (.string s.data.toList)) → weighS l ≤ Rows.uptoBulkAll ds
  | [], ds, h => by
    subst h
    exact Nat.zero_le _
  | t :: r, ds, h => by
    subst h
    have h1 := bulk_strs (H := H) r (r.map fun s => .lit (.string s.data.toList)) rfl
    have h2 := bulk_str (H := H) t
    rw [List.map_cons]
    unfold weighS at h1 ⊢
    rw [List.map_cons, List.sum_cons]
    simp only [Rows.uptoBulkAll]
    omega
theorem open_strs {H : Type} {enc : TypeId × Value → H} {W : World} {base : Nat} {sp : Nat → Bool} {held : Bool} {fuel : Nat} {a0 : Option Addr} {len cap : Nat} {d : DataW H} {p : List MemPlace}
    (h : DataW.trod enc Try.prog W base sp held fuel 30 [.slice a0 len cap] = some (d, p)) (hlt : ∀ y ∈ p, y.block < W.heap.size) : ∃ l : List ByteArray, StrArg W (.slice a0 len cap) l ∧ weighS l ≤ Rows.uptoBulk d := by
  rcases Deep.open_slice Try.underlying30 h with ⟨hcs, hx⟩ | ⟨a, len', cap', m, n, D, Pl, hcs, _, hl, _, hm, hx, hi⟩
  · injection hcs with hcs _
    injection hcs with h1 h2 h3
    subst h1 h2 h3
    exact ⟨[], .inl ⟨rfl, _, _, rfl⟩, Nat.zero_le _⟩
  · injection hcs with hcs _
    injection hcs with h1 h2 h3
    subst h1 h2 h3
    rw [cellsStrT] at hi
    have hlm : len ≤ m := by rw [hm]; split <;> omega
    obtain ⟨l, hll, hp⟩ := list_of (n := len) (P := fun i (s : ByteArray) => D i = .lit (.string s.data.toList) ∧ W.cell? (a.add i) = some (.string s)) (by
      intro i hil
      obtain ⟨cs', hc, ht⟩ := hi i (by omega)
      obtain ⟨s, e1, g1, _⟩ := DataW.trod_string Try.underlying9 ht
      obtain ⟨_, _, hat⟩ := World.cells?_some hc
      refine ⟨s, congrArg Prod.fst g1, ?_⟩
      have h0 := hat 0 (by omega)
      rw [Deep.add_add, e1] at h0
      simpa using h0)
    refine ⟨l, ?_, ?_⟩
    · by_cases hl0 : len = 0
      · subst hl0
        obtain rfl : l = [] := List.eq_nil_of_length_eq_zero hll
        exact .inl ⟨rfl, _, _, rfl⟩
      · obtain ⟨s0, hs0⟩ : ∃ s, l[0]? = some s := ⟨_, List.getElem?_eq_getElem (by omega)⟩
        have hc0 := (hp 0 s0 hs0).2
        obtain ⟨b, off, spot⟩ := a
        have hspot : spot = none := by
          simpa [Addr.add] using World.cell?_spot hc0
        subst hspot
        have hbW : b < W.heap.size := by
          simp only [Prod.mk.injEq] at hx
          refine hlt (.cell b off) ?_
          rw [hx.2]
          exact List.mem_append_left _ (MemPlace.mem_row.2 ⟨0, by rw [cellsStrT]; omega, by simp⟩)
        refine .inr ⟨b, off, cap, by rw [hll], hbW, fun i s hs => ?_⟩
        rw [← (hp i s hs).2]
        unfold Addr.add
        split <;> simp_all
    · simp only [Prod.mk.injEq] at hx
      rw [hx.1]
      have e : (List.range len).map D = l.map (fun s => .lit (.string s.data.toList)) := by
        apply List.ext_getElem?
        intro i
        by_cases hil : i < len
        · obtain ⟨s, hs⟩ : ∃ s, l[i]? = some s := ⟨_, List.getElem?_eq_getElem (by omega)⟩
          rw [List.getElem?_map, List.getElem?_map, hs, List.getElem?_range hil]
          show some (D i) = some _
          rw [(hp i s hs).1]
        · rw [List.getElem?_eq_none (by simp; omega), List.getElem?_eq_none (by simp; omega)]
      simp only [Rows.uptoBulk]
      have := bulk_strs (H := H) l _ e
      omega
end Go.Proofs.Ythjckmoobbpidaa.Mrk
