/-
  The walk of the law LexHalves. Conditions: each string has at most 2^47 - 4096 bytes; the program's list of names stands.
-/
import Derived.Test.YtmgclgojmckfhaaGreatDoorZLexB
import Derived.Test.YtmgclgojmckfhaaGreatDoorZLexO
import Derived.Test.YtmgclgojmckfhaaGreatDoorShj
import Derived.Deep.AppendSrc
import Derived.OwnWalk
import Derived.Laws.OwnMore
namespace Go.Proofs.YtmgclgojmckfhaaGreatDoor.Lx
open Go.RowKit Gly
set_option linter.unusedSimpArgs false
set_option linter.unusedVariables false

theorem tk_len (t : Tk) : (tkC t).length = 4 := rfl
theorem own_arg {w : World} {B : Nat} {v : Value} {l : List Tk} (h : w.ownsRow B 41 4 v l.length (l.flatMap tkC)) : TkArg w v l := by
  rcases h.2 with ⟨rfl, h0⟩ | ⟨g, cap, cur, rfl, hb, hg, _⟩
  · obtain rfl : l = [] := List.eq_nil_of_length_eq_zero h0
    exact .inl ⟨rfl, _, _, rfl⟩
  · refine .inr ⟨g, 0, cap, rfl, lt_of_block hg, fun i t ht k hk => ?_⟩
    have h0 := flat_at tkC 4 tk_len l i k t ht hk
    obtain ⟨u, hu⟩ : ∃ u, (tkC t)[k]? = some u := ⟨_, List.getElem?_eq_getElem (by rw [tk_len]; exact hk)⟩
    rw [hu] at h0 ⊢
    have := World.ownsRow.cells h (g := g) rfl _ _ h0
    rw [add_plain] at this
    rw [Nat.zero_add]
    exact this
/-! ### The mathematics -/

def keyT (t : Tk) : Int × List UInt8 := (t.kind, t.text.data.toList)
theorem key_of (s : ByteArray) (l : List It) : (l.map (tkOf s)).map keyT = l.map (itm s) := by
  rw [List.map_map]
  rfl
theorem tokS_items (s : ByteArray) (h : errS s = 0) : ((toksL (itemsS s)).map (tkOf s)).map keyT = tokS s := by
  obtain ⟨-, -, h3⟩ := err_ok s h
  rw [key_of, h3]
  exact (toks_map s _).symm
theorem items_bd2 (s : ByteArray) : (itemsS s).length ≤ 16777216 := by
  by_cases h : errS s = 0
  · obtain ⟨h1, h2, h3⟩ := err_ok s h
    obtain ⟨j, hj⟩ := at_lexS s
    have := hj.count
    have := hj.le
    have := (runes_ok s h1).2
    rw [h3]
    omega
  · unfold itemsS
    rw [if_neg h]
    exact Nat.zero_le _
theorem toks_bd2 (s : ByteArray) : (toksL (itemsS s)).length ≤ 16777216 := Nat.le_trans (List.length_filter_le _ _) (items_bd2 s)

end Go.Proofs.YtmgclgojmckfhaaGreatDoor.Lx
/-
  The contract of package lexer's Spell. Condition: what is spelt has at most 2^47 bytes.
-/
namespace Go.Proofs.YtmgclgojmckfhaaGreatDoor.Lx
open Go.RowKit Gly
set_option linter.unusedSimpArgs false
set_option linter.unusedVariables false

theorem infoStrS : (Tryz.prog.info? 9).map (fun i => (i.zero, i.size, i.bytes)) = some (some (.string ⟨#[]⟩), 1, 16) := by kernel_rfl
/-- The texts of tokens, blanks between. -/
def spellT (l : List Tk) : ByteArray := ⟨(Lib.join (l.map fun t => t.text.data.toList) [32]).toArray⟩
/-- What has been written into a slice of texts. -/
structure Wr (w wr : World) (n : Nat) (l : List Tk) (k : Nat) : Prop where
  bel : Below w.heap.size w wr
  own : ∃ xs, wr.ownsRow w.heap.size 9 1 (.slice (some ⟨w.heap.size, 0, none⟩) n n) n xs ∧ ∀ (j : Nat) (t : Tk), j < k → l[j]? = some t → xs[j]? = some (.string t.text)
theorem Wr.cell {w wr : World} {n : Nat} {l : List Tk} {k : Nat} (h : Wr w wr n l k) (hk : k < n) (o : Obj) : (wr.alloc o).frozen? ⟨w.heap.size, k, none⟩ = false ∧ ∃ u, (wr.alloc o).cell? ⟨w.heap.size, k, none⟩ = some u := by
  obtain ⟨xs, ho, -⟩ := h.own
  have ho2 := ho.alloc o
  refine ⟨World.ownsRow.frozenAt ho2 k, ?_⟩
  have hlen : xs.length = n := by have := ho.1; omega
  have := World.ownsRow.cells ho2 (g := w.heap.size) rfl k _ (List.getElem?_eq_getElem (by omega))
  rw [add_plain] at this
  exact ⟨_, this⟩
theorem Wr.put {w wr : World} {n : Nat} {l : List Tk} {k : Nat} (h : Wr w wr n l k) (hk : k < n) (t : Tk) (ht : l[k]? = some t) (o : Obj) : Wr w ((wr.alloc o).setCell ⟨w.heap.size, k, none⟩ (.string t.text)) n l (k + 1) := by
  obtain ⟨xs, ho, hx⟩ := h.own
  refine ⟨(h.bel.alloc h.bel.size o).setCell (Nat.le_refl _) _, _, (World.ownsRow.stored (ho.alloc o) k (.string t.text)).1, fun j u hj hu => ?_⟩
  have hlen : xs.length = n := by have := ho.1; omega
  by_cases q : j = k
  · subst q
    rw [ht] at hu
    injection hu with hu
    subst hu
    rw [List.getElem?_set_self (by omega)]
  · rw [List.getElem?_set_ne (fun e => q e.symm)]
    exact hx j u (by omega) hu
set_option maxHeartbeats 4000000 in
theorem spell_any (v : Value) (l : List Tk) (w : World) (h : TkArg w v l) (hl : l.length ≤ 1099511627776) (hj : (Lib.join (l.map fun t => t.text.data.toList) [32]).length ≤ 140737488355328) :
    Calls Tryz.prog 7 #[v] w fun e w' => e = .returned (.string (spellT l)) ∧ Below w.heap.size w w' := by
  have HL := Lib.hid hl
  have HJ : Hid ((Lib.join ((l.map Tk.text).map fun x => x.data.toList) (⟨#[32]⟩ : ByteArray).data.toList).length ≤ 140737488355328 ∧ (⟨(Lib.join ((l.map Tk.text).map fun x => x.data.toList) (⟨#[32]⟩ : ByteArray).data.toList).toArray⟩ : ByteArray) = spellT l) := by
    have e : (l.map Tk.text).map (fun x => x.data.toList) = l.map fun t => t.text.data.toList := by
      rw [List.map_map]
      rfl
    unfold Hid
    rw [e]
    exact ⟨hj, rfl⟩
  obtain ⟨va, vc, rfl⟩ := h.len
  have H := Lib.hid h
  clear h hj
  obtain ⟨i0, hi, hz0, hz1, hz2⟩ := info_parts infoStrS
  go_enter Tryz.func7, Tryz.ntmps7
  go_wp2_with (first | (refine wpList_make_full w rfl _ _ 53 rfl w.heap.size 9 i0 _ 1 Tryz.underlying53 hi hz0 hz1 .i64 .i64 _ _ l.length rfl rfl rfl rfl (by rw [hz2]; omega) (by unfold maxLen; omega) (Nat.le_refl _) ?_))
  intro w1 o1 g1
  have hb1 : Below w.heap.size w w1 := ⟨g1.os, g1.tape, g1.output, g1.size, fun k hk => g1.block k hk (by simp)⟩
  have W0 : Hid (Wr w w1 l.length l 0) := ⟨hb1, _, o1, fun j t hj => absurd hj (by omega)⟩
  clear hl hi hz0 hz1 hz2 o1 g1 hb1
  go_wp2_with fail
  go_loopw [11] (fun i wr => ∃ (k : Nat), i = .int .i64 (k : Int) ∧ Wr w wr l.length l k ∧ k ≤ l.length) (fun i _ => l.length - (intOf i).toNat)
  case atStart => exact ⟨0, rfl, W0.out, by omega⟩
  case round =>
    obtain ⟨k, rfl, hwr, hk⟩ := hrel
    have HW := Lib.hid hwr
    clear hwr W0
    by_cases hp : k < l.length
    · obtain ⟨b, off, c', hv, hlt, hc⟩ := H.out.cells (by omega)
      injection hv with h1 h2 h3
      subst h1
      obtain ⟨t, ht⟩ : ∃ t, l[k]? = some t := ⟨_, List.getElem?_eq_getElem hp⟩
      have HIN : Hid (TkIn w b off l) := ⟨hlt, hc⟩
      obtain ⟨x0, x1, x2, x3⟩ := (HIN.out.below HW.out.bel (Nat.le_refl _)).four k t ht
      have yf := fun o => (HW.out.cell hp o).1
      obtain ⟨yu, hyu⟩ : ∃ u, ∀ o, (wr.alloc o).cell? ⟨w.heap.size, k, none⟩ = some u := by
        obtain ⟨xs, ho, -⟩ := HW.out.own
        have hlen : xs.length = l.length := by have := ho.1; omega
        refine ⟨xs[k]'(by omega), fun o => ?_⟩
        have := World.ownsRow.cells (ho.alloc o) (g := w.heap.size) rfl k _ (List.getElem?_eq_getElem (by omega))
        rw [add_plain] at this
        exact this
      have hw := idx_at k l.length hp HL.out
      have HWW := Lib.hid hw
      have HT := Lib.hid ht
      have i2 : (0 : Int) ≤ (k : Int) := by omega
      have i3 : (k : Int) < (l.length : Int) := by omega
      clear h2 h3 ht hw hlt hc
      go_wp2_with fail
      go_roundw
      case rel =>
        rw [HWW.out]
        exact ⟨k + 1, by go_num, HW.out.put hp t HT.out _, by omega⟩
      case measure =>
        rw [HWW.out]
        simp [intOf]
        omega
    · have hk2 : k = l.length := by omega
      subst hk2
      obtain ⟨xs, ho, hx⟩ := HW.out.own
      have hcells : ∀ (j : Nat) x, (l.map Tk.text)[j]? = some x → wr.cell? ⟨w.heap.size, 0 + j, none⟩ = some (.string x) := by
        intro j x hj
        rw [List.getElem?_map] at hj
        obtain ⟨t, ht, rfl⟩ := Option.map_eq_some_iff.1 hj
        have hj2 := (List.getElem?_eq_some_iff.1 ht).1
        have := World.ownsRow.cells ho (g := w.heap.size) rfl j _ (hx j t hj2 ht)
        rw [add_plain] at this
        rw [Nat.zero_add]
        exact this
      have hbk : w.heap.size < wr.heap.size := (World.ownsRow.lt ho w.heap.size rfl).2
      have hml : (l.map Tk.text).length = l.length := List.length_map ..
      have C := Any.strings_Join Tryz.lays156 Tryz.Builder_Extra_156 w.heap.size 0 l.length (l.map Tk.text) ⟨#[32]⟩ wr hcells hbk (by rw [hml]; have := HL.out; omega) (by rw [hml]; omega) HJ.out.1
      rw [hml, HJ.out.2] at C
      have HC := Lib.hid C
      have HB := Lib.hid HW.out.bel
      clear C hcells ho hx hml
      go_wp2_with (first | (go_at_call 15; refine HC.out.mono ?_; rintro e w5 ⟨rfl, hb5⟩))
      go_ret
      exact ⟨rfl, HB.out.trans (hb5.mono HB.out.size)⟩
end Go.Proofs.YtmgclgojmckfhaaGreatDoor.Lx
/-
  The walk of the law LexBack. Conditions: the string has at most 2^47 - 4096 bytes; the program's list of names stands.
-/
namespace Go.Proofs.YtmgclgojmckfhaaGreatDoor.Lx
open Go.RowKit Gly
set_option linter.unusedSimpArgs false
set_option linter.unusedVariables false

theorem own_len6 {w : World} {B size n : Nat} {e : TypeId} {v : Value} {xs : List Value} (h : w.ownsRow B e size v n xs) : ∃ a c, v = .slice a n c := by
  rcases h.2 with ⟨rfl, h0⟩ | ⟨g, cap, cur, rfl, _⟩
  · subst h0
    exact ⟨_, _, rfl⟩
  · exact ⟨_, _, rfl⟩
theorem tailS_join : ∀ r : List (Int × List UInt8), tailS r = Lib.joinTail [32] (r.map fun t => t.2)
  | [] => rfl
  | t :: r => by
    rw [tailS, tailS_join r]
    unfold Lib.joinTail
    simp
theorem spellS_join (r : List (Int × List UInt8)) : spellS r = Lib.join (r.map fun t => t.2) [32] := by
  cases r with
  | nil => rfl
  | cons t r => rw [spellS, List.map_cons, Lib.join_cons, tailS_join]
theorem spellT_is (l : List Tk) : (spellT l).data.toList = spellS (l.map keyT) ∧ Lib.join (l.map fun t => t.text.data.toList) [32] = spellS (l.map keyT) := by
  have e : Lib.join (l.map fun t => t.text.data.toList) [32] = spellS (l.map keyT) := by
    rw [spellS_join, List.map_map]
    rfl
  refine ⟨?_, e⟩
  rw [← e]
  rfl
/-- What is spelt of a row's tokens is at most twice as long. -/
theorem Lx.spelt {L : List UInt8} {ts : List (Int × List UInt8)} (h : Lx L ts) : (tailS (toks ts)).length ≤ 2 * L.length := by
  induction h with
  | nil => simp [toks, tailS]
  | blank hb h ih =>
    rw [List.length_cons]
    omega
  | note hn h ih =>
    rw [toks_note]
    rw [List.length_drop] at ih
    omega
  | tok h0 he h ih =>
    rename_i L ts
    have hk := lex_kind L he
    unfold toks at ih ⊢
    rw [List.filter_cons_of_pos (by simp only [decide_eq_true_eq]; omega), tailS, List.length_cons, List.length_append, List.length_take, Nat.min_eq_left hk.2.2.2]
    rw [List.length_drop] at ih
    omega
theorem spellS_le (r : List (Int × List UInt8)) : (spellS r).length ≤ (tailS r).length := by
  cases r with
  | nil => exact Nat.le_refl _
  | cons t r =>
    rw [spellS, tailS, List.length_cons, List.length_append]
    omega
end Go.Proofs.YtmgclgojmckfhaaGreatDoor.Lx
