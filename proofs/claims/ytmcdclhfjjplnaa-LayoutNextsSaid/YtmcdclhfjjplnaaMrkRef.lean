/-
  The document's own Opens, brace, fresh, Mark and Bare at any tokens. Conditions: at most 2^40 tokens; what the document's Lines answers is told by a hypothesis.
-/
import Derived.Test.YtmcdclhfjjplnaaMrkMath
import Derived.Deep.RegionWith
import Derived.Deep.RegionHeld3
import Derived.Deep.Cut
namespace Go.Proofs.Ytmcdclhfjjplnaa.Mrk
open Tks Go.RowKit
set_option linter.unusedSimpArgs false
set_option linter.unusedVariables false

/-- Two blocks made, and draws. -/
theorem below_two (w : World) (o1 o2 : Obj) : Below w.heap.size w ((w.alloc o1).alloc o2) := by
  have h1 : Below w.heap.size w (w.alloc o1) := (Below.refl _ _).alloc (Nat.le_refl _) o1
  exact h1.alloc h1.size o2
def tkO (t : Tk) : Obj := .cells #[.int .i64 t.kind, .string t.text, .int .i64 t.line, .int .i64 t.col] 29
theorem two_at {w w1 : World} {t u : Tk} (hb : Below ((w.alloc (tkO t)).alloc (tkO u)).heap.size ((w.alloc (tkO t)).alloc (tkO u)) w1) :
    w1.cell? ⟨w.heap.size, 1, none⟩ = some (.string t.text) ∧ w1.cell? ⟨w.heap.size, 2, none⟩ = some (.int .i64 t.line) ∧ w1.cell? ⟨w.heap.size + 1, 2, none⟩ = some (.int .i64 u.line) := by
  have s1 : (w.alloc (tkO t)).heap.size = w.heap.size + 1 := Array.size_push _
  have s2 : ((w.alloc (tkO t)).alloc (tkO u)).heap.size = w.heap.size + 2 := (Array.size_push _).trans (by rw [s1])
  have h1 : Below (w.alloc (tkO t)).heap.size (w.alloc (tkO t)) ((w.alloc (tkO t)).alloc (tkO u)) := (Below.refl _ _).alloc (Nat.le_refl _) _
  have k (j : Nat) : w1.cell? ⟨w.heap.size, j, none⟩ = (w.alloc (tkO t)).cell? ⟨w.heap.size, j, none⟩ :=
    (World.cell?_of_block (hb.block _ (by dsimp only; omega))).trans (World.cell?_of_block (h1.block _ (by dsimp only; omega)))
  have m (j : Nat) : w1.cell? ⟨w.heap.size + 1, j, none⟩ = ((w.alloc (tkO t)).alloc (tkO u)).cell? ⟨w.heap.size + 1, j, none⟩ :=
    World.cell?_of_block (hb.block _ (by dsimp only; omega))
  refine ⟨(k 1).trans ((new_cell _ _ _ _).trans rfl), (k 2).trans ((new_cell _ _ _ _).trans rfl), (m 2).trans ?_⟩
  have := new_cell (w.alloc (tkO t)) #[.int .i64 u.kind, .string u.text, .int .i64 u.line, .int .i64 u.col] 29 2
  rw [s1] at this
  exact this.trans rfl
theorem bareL_append (a b : List Tk) : bareL (a ++ b) = bareL a ++ bareL b := List.filter_append ..
theorem bareL_len (a : List Tk) : (bareL a).length ≤ a.length := List.length_filter_le ..
theorem take_next (l : List Tk) (k : Nat) (t : Tk) (h : l[k]? = some t) : l.take (k + 1) = l.take k ++ [t] := by
  rw [List.take_add_one, h]
  rfl
theorem bare_yes (l : List Tk) (k : Nat) (t : Tk) (h : l[k]? = some t) (hm : isMark t = false) : bareL (l.take (k + 1)) = bareL (l.take k) ++ [t] := by
  rw [take_next l k t h, bareL_append]
  unfold bareL
  rw [List.filter_cons, hm]
  rfl
theorem bare_no (l : List Tk) (k : Nat) (t : Tk) (h : l[k]? = some t) (hm : isMark t = true) : bareL (l.take (k + 1)) = bareL (l.take k) := by
  rw [take_next l k t h, bareL_append]
  unfold bareL
  rw [List.filter_cons, hm]
  exact List.append_nil _
theorem mark_cases (t : Tk) : (t.kind = 16 ∧ isMark t = true) ∨ (t.kind = 17 ∧ isMark t = true) ∨ (t.kind ≠ 16 ∧ t.kind ≠ 17 ∧ isMark t = false) := by
  unfold isMark
  by_cases h : t.kind = 16
  · exact .inl ⟨h, by rw [h]; rfl⟩
  · by_cases q : t.kind = 17
    · exact .inr (.inl ⟨q, by rw [q]; rfl⟩)
    · exact .inr (.inr ⟨h, q, by rw [beq_eq_false_iff_ne.2 h, beq_eq_false_iff_ne.2 q]; rfl⟩)
/-- append of one token that was just laid: the row is the call's own, and all that lay there ahead of the call lies there. -/
theorem push_one (w wr : World) {ops : Array Oper} {rest : List Oper} {o : Oper} {a : Act} {Q : Exit → Act → World → Prop} (hg : o.guard = none) (sl x : Operand) (hop : o.op = Op.call { callee := Callee.builtin Builtin.append, args := #[sl, x], argTypes := #[22, 22] })
    (v : Value) (l : List Tk) (hs : a.eval sl = v) (hown : Own wr w.heap.size v l) (hbel : Below w.heap.size w wr) (t : Tk) (ty : TypeId) (c : Nat) (hx : a.eval x = .slice (some ⟨wr.heap.size, 0, none⟩) 1 c) (b1 : l.length + 1 ≤ 3518437208880)
    (hK : ∀ v' W2, Own W2 w.heap.size v' (l ++ [t]) → Below w.heap.size w W2 → wpList Try.prog ops Q rest (a.put o.dst v') W2) :
    wpList Try.prog ops Q (o :: rest) a (wr.alloc (.cells #[.int .i64 t.kind, .string t.text, .int .i64 t.line, .int .i64 t.col] ty)) := by
  have h0 : Below wr.heap.size wr (wr.alloc (.cells #[.int .i64 t.kind, .string t.text, .int .i64 t.line, .int .i64 t.col] ty)) := (Below.refl _ _).alloc (Nat.le_refl _) _
  have h1 : Own (wr.alloc (.cells #[.int .i64 t.kind, .string t.text, .int .i64 t.line, .int .i64 t.col] ty)) w.heap.size v l := hown.below h0 (Nat.le_refl _)
  have h2 : Below w.heap.size w (wr.alloc (.cells #[.int .i64 t.kind, .string t.text, .int .i64 t.line, .int .i64 t.col] ty)) := hbel.trans (h0.mono hbel.size)
  refine append_one _ hg sl x hop w.heap.size v l hs h1 ⟨wr.heap.size, 0, none⟩ t c hx (fun j u hj => ?_) b1 h2.size ?_
  · rw [add_plain, new_cell]
    simpa [tkC] using hj
  · intro v' W2 o2 g2 _
    exact hK v' W2 o2 (Below.grown h2 g2 h2.size (fun k hk => (World.ownsRow.lt h1 k hk).1))
/-- Behind an append: what lay there lies there still, and the row is the call's own. -/
theorem grown_below {w W1 W2 : World} {v : Value} {l : List Tk} (ho : Own W1 w.heap.size v l) (h : Below w.heap.size w W1) (hg : W1.grownBy W2 v.ownBlock) : Below w.heap.size w W2 :=
  Below.grown h hg h.size (fun k hk => (World.ownsRow.lt ho k hk).1)
set_option maxRecDepth 100000 in
set_option maxHeartbeats 2000000 in
theorem refbare_any (v : Value) (l : List Tk) (w : World) (ha : TkArg w v l) (hm : l.length ≤ 3518437208879) :
    Calls Try.prog 19 #[v] w fun e w' => ∃ r, e = .returned r ∧ Own w' w.heap.size r (bareL l) ∧ Below w.heap.size w w' := by
  have HM := Lib.hid hm
  clear hm
  by_cases hL : l.length = 0
  · obtain ⟨a1, c1, rfl⟩ := ha.len
    have hl : l = [] := List.eq_nil_of_length_eq_zero hL
    rw [hL]
    subst hl
    clear ha HM hL
    go_enter Try.func19, Try.ntmps19
    go_wp2_with fail
    go_loopw [3, 4] (fun o i wr => o = .slice none 0 0 ∧ i = .int .i64 0 ∧ wr = w) (fun _ _ _ => 0)
    case atStart => exact ⟨rfl, rfl, rfl⟩
    case round =>
      obtain ⟨rfl, rfl, rfl⟩ := hrel
      go_wp2_with fail
      go_ret
      exact ⟨_, rfl, Own.nil _ _, Below.refl _ _⟩
  · obtain ⟨ga, oa, ca, rfl, ha1, ha2⟩ := ha.cells hL
    have HA : Hid (TkIn w ga oa l) := ⟨ha1, ha2⟩
    clear ha ha1 ha2
    go_enter Try.func19, Try.ntmps19
    go_wp2_with fail
    go_loopw [3, 4] (fun o i wr => ∃ k : Nat, i = .int .i64 (k : Int) ∧ k ≤ l.length ∧ Own wr w.heap.size o (bareL (l.take k)) ∧ Below w.heap.size w wr) (fun _ i _ => l.length - (intOf i).toNat)
    case atStart => exact ⟨0, rfl, by omega, Own.nil _ _, Below.refl _ _⟩
    case round =>
      obtain ⟨k, rfl, hk, ho, hb⟩ := hrel
      have HO := Lib.hid ho
      have HB := Lib.hid hb
      clear ho hb
      by_cases hp : k < l.length
      · obtain ⟨t, ht⟩ : ∃ t, l[k]? = some t := ⟨_, List.getElem?_eq_getElem hp⟩
        have HI := Lib.hid (HA.out.below HB.out (Nat.le_refl _))
        obtain ⟨a0, a1, a2, a3⟩ := HI.out.four k t ht
        have HW := Lib.hid (idx_at k l.length hp (Nat.le_trans HM.out (by decide)))
        have HT := Lib.hid ht
        clear ht
        rcases mark_cases t with ⟨h1, h2⟩ | ⟨h1, h2⟩ | ⟨h1, h2, h3⟩
        · have x1 : (t.kind != 16) = false := by rw [bne_eq_false_iff_eq]; exact h1
          have HN := Lib.hid (bare_no l k t HT.out h2)
          clear h1 h2
          go_wp2_with fail
          go_roundw
          case rel =>
            rw [HW.out]
            exact ⟨k + 1, by go_num, by omega, by rw [HN.out]; exact HO.out, HB.out⟩
          case measure =>
            rw [HW.out]
            simp [intOf]
            omega
        · have x1 : (t.kind != 16) = true := by rw [bne_iff_ne, h1]; decide
          have x2 : (t.kind != 17) = false := by rw [bne_eq_false_iff_eq]; exact h1
          have HN := Lib.hid (bare_no l k t HT.out h2)
          clear h1 h2
          go_wp2_with fail
          go_roundw
          case rel =>
            rw [HW.out]
            exact ⟨k + 1, by go_num, by omega, by rw [HN.out]; exact HO.out, HB.out⟩
          case measure =>
            rw [HW.out]
            simp [intOf]
            omega
        · have x1 : (t.kind != 16) = true := by rw [bne_iff_ne]; exact h1
          have x2 : (t.kind != 17) = true := by rw [bne_iff_ne]; exact h2
          have HN := Lib.hid (bare_yes l k t HT.out h3)
          clear h1 h2 h3
          have hlen := Lib.hid (Nat.le_trans (bareL_len (l.take k)) (List.length_take_le k l))
          go_wp2_with (first | (at_builtin; refine push_one w _ rfl _ _ rfl _ _ rfl HO.out HB.out t _ _ rfl (by have := hlen.out; have := HM.out; omega) ?_; intro v2 W2 o2 b2; have O2 := Lib.hid o2; have B2 := Lib.hid b2; clear o2 b2))
          go_roundw
          case rel =>
            rw [HW.out]
            exact ⟨k + 1, by go_num, by omega, by rw [HN.out]; exact O2.out, B2.out⟩
          case measure =>
            rw [HW.out]
            simp [intOf]
            omega
      · go_wp2_with fail
        go_ret
        have : l.take k = l := List.take_of_length_le (by omega)
        have ho := HO.out
        rw [this] at ho
        exact ⟨_, rfl, ho, HB.out⟩
end Go.Proofs.Ytmcdclhfjjplnaa.Mrk
