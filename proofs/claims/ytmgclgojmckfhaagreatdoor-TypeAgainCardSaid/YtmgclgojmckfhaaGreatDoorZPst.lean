/-
  The program's own layout: a state behind a pointer; its top, outer, stands, begin, line, end. Conditions: sizes.
-/
import Derived.Test.YtmgclgojmckfhaaGreatDoorZLayA
import Derived.ArgAppend
import Derived.Maps.AppendAt
import Derived.Deep.QuietTactic
import Derived.BigQuiet
import Derived.Deep.RegionWith
import Derived.Deep.RegionHeld3
namespace Go.Proofs.YtmgclgojmckfhaaGreatDoor.Lay
open Tks Mrk Go.RowKit
set_option linter.unusedSimpArgs false
set_option linter.unusedVariables false

/-- All blocks but two are as they were. -/
structure Kp (w w' : World) (b : Nat) (g : Option Nat) : Prop where
  os : w'.os = w.os
  tape : w'.tape = w.tape
  output : w'.output = w.output
  size : w.heap.size ≤ w'.heap.size
  block : ∀ k, k < w.heap.size → k ≠ b → some k ≠ g → w'.heap[k]? = w.heap[k]?
theorem Kp.refl (w : World) (b : Nat) (g : Option Nat) : Kp w w b g := ⟨rfl, rfl, rfl, Nat.le_refl _, fun _ _ _ _ => rfl⟩
theorem Kp.trans {a b c : World} {k : Nat} {g : Option Nat} (h : Kp a b k g) (q : Kp b c k g) : Kp a c k g :=
  ⟨q.os.trans h.os, q.tape.trans h.tape, q.output.trans h.output, Nat.le_trans h.size q.size, fun i hi h1 h2 => (q.block i (Nat.lt_of_lt_of_le hi h.size) h1 h2).trans (h.block i hi h1 h2)⟩
theorem Kp.of_grown {w w' : World} {b : Nat} {g : Option Nat} (h : w.grownBy w' (some b)) : Kp w w' b g := ⟨h.os, h.tape, h.output, h.size, fun k hk h1 _ => h.block k hk (by simp [h1])⟩
theorem Kp.of_row {w w' : World} {b : Nat} {g : Option Nat} (h : w.grownBy w' g) : Kp w w' b g := ⟨h.os, h.tape, h.output, h.size, fun k hk _ h2 => h.block k hk h2⟩
theorem Kp.of_below {w w' : World} {b : Nat} {g : Option Nat} (h : Below w.heap.size w w') : Kp w w' b g := ⟨h.os, h.tape, h.output, h.size, fun k hk _ _ => h.block k hk⟩
theorem Kp.set {w w' : World} {b : Nat} {g : Option Nat} (h : Kp w w' b g) (j : Nat) (u : Value) : Kp w (w'.setCell ⟨b, j, none⟩ u) b g := by
  refine ⟨h.os, h.tape, h.output, ?_, fun k hk h1 h2 => ?_⟩
  · rw [World.size_setCell]
    exact h.size
  · rw [Below.heap_setCell _ _ _ _ h1]
    exact h.block k hk h1 h2
theorem Kp.drewN {w w' : World} {b : Nat} {g : Option Nat} (h : Kp w w' b g) (n : Nat) : Kp w (w'.drewN n) b g := by
  induction n with
  | zero => exact h
  | succ n ih => exact ⟨ih.os, ih.tape, ih.output, ih.size, ih.block⟩
theorem Kp.alloc {w w' : World} {b : Nat} {g : Option Nat} (h : Kp w w' b g) (o : Obj) : Kp w (w'.alloc o) b g := h.trans (Kp.of_below ((Below.refl _ _).alloc (Nat.le_refl _) o))
theorem Kp.below {w w' : World} {b n : Nat} {g : Option Nat} (h : Kp w w' b g) (hb : n ≤ b) (hg : ∀ k, g = some k → n ≤ k) (hn : n ≤ w.heap.size) : Below n w w' :=
  ⟨h.os, h.tape, h.output, h.size, fun k hk => h.block k (by omega) (by omega) (fun e => by have := hg k e.symm; omega)⟩
theorem Kp.lies {w w' : World} {b k : Nat} {g : Option Nat} {o : Obj} (h : Kp w w' b g) (hl : Lies w k o) (h1 : k ≠ b) (h2 : some k ≠ g) : Lies w' k o := (h.block k hl.lt h1 h2).trans hl
theorem Kp.grown {w w' : World} {b : Nat} (h : Kp w w' b none) : w.grownBy w' (some b) := ⟨h.os, h.tape, h.output, h.size, fun k hk h1 => h.block k hk (fun e => h1 (by rw [e])) (by simp)⟩

/-- What a slice of ints holds, where the blocks that it lies in are as they were. -/
theorem IntArg.moved {w w' : World} {v : Value} {l : List Int} (h : IntArg w v l) (hsz : w.heap.size ≤ w'.heap.size) (hk : ∀ (b off c : Nat), v = .slice (some ⟨b, off, none⟩) l.length c → l.length ≠ 0 → w'.heap[b]? = w.heap[b]?) : IntArg w' v l := by
  rcases h with h | ⟨b, off, c, hv, hlc, hlt, hc⟩
  · exact .inl h
  · by_cases hl : l.length = 0
    · exact .inl ⟨List.eq_nil_of_length_eq_zero hl, _, _, by rw [hv, hl]⟩
    · exact .inr ⟨b, off, c, hv, hlc, by omega, fun i x hx => (World.cell?_of_block (hk b off c hv hl)).trans (hc i x hx)⟩
theorem TkArg.moved {w w' : World} {v : Value} {l : List Tk} (h : TkArg w v l) (hsz : w.heap.size ≤ w'.heap.size) (hk : ∀ (b off c : Nat), v = .slice (some ⟨b, off, none⟩) l.length c → l.length ≠ 0 → w'.heap[b]? = w.heap[b]?) : TkArg w' v l := by
  rcases h with h | ⟨b, off, c, hv, hlt, hc⟩
  · exact .inl h
  · by_cases hl : l.length = 0
    · exact .inl ⟨List.eq_nil_of_length_eq_zero hl, _, _, by rw [hv, hl]⟩
    · exact .inr ⟨b, off, c, hv, by omega, fun i t ht k hk2 => (World.cell?_of_block (hk b off c hv hl)).trans (hc i t ht k hk2)⟩

/-- A slice of open blocks that may be appended to: a row of the call's own, or one without room. -/
structure Opn (w : World) (b z : Nat) (g : Option Nat) (v : Value) (o : List Int) : Prop where
  arg : IntArg w v o
  away : Apart b (b + 1) v
  lo : b < z
  hi : z ≤ w.heap.size
  how : (IntOwn w z v o ∧ g = v.ownBlock) ∨ (g = none ∧ ∃ a, v = .slice a o.length o.length)
theorem Opn.gz {w : World} {b z : Nat} {g : Option Nat} {v : Value} {o : List Int} (h : Opn w b z g v o) : ∀ k, g = some k → z ≤ k ∧ k < w.heap.size := by
  intro k hk
  rcases h.how with ⟨h1, h2⟩ | ⟨h1, -⟩
  · exact World.ownsRow.lt h1 k (h2 ▸ hk)
  · rw [h1] at hk
    cases hk
theorem Opn.kept {w w' : World} {b z : Nat} {g : Option Nat} {v : Value} {o : List Int} (h : Opn w b z g v o) (k : Kp w w' b none) : Opn w' b z g v o where
  arg := h.arg.moved k.size (fun b2 off c hv hl => by
    have := h.away b2 off _ c hv hl
    have h2 : b2 < w.heap.size := by
      rcases h.arg with ⟨e, _⟩ | ⟨b3, o3, c3, e, _, q, _⟩
      · rw [e] at hl
        exact absurd rfl hl
      · rw [hv] at e
        cases e
        exact q
    exact k.block b2 h2 (by omega) (by simp))
  away := h.away
  lo := h.lo
  hi := Nat.le_trans h.hi k.size
  how := by
    rcases h.how with ⟨h1, h2⟩ | h1
    · refine .inl ⟨World.ownsRow.kept h1 k.grown ?_, h2⟩
      rcases hv : v.ownBlock with _ | q
      · exact .inl rfl
      · right
        intro e
        injection e with e
        have := (World.ownsRow.lt h1 q hv).1
        have := h.lo
        omega
    · exact .inr h1
theorem add_off (b off j : Nat) : (⟨b, off, none⟩ : Addr).add j = ⟨b, off + j, none⟩ := by
  unfold Addr.add
  split <;> simp_all
/-- append of one open block that was just laid. -/
theorem append_open (wr : World) {ops : Array Oper} {rest : List Oper} {o : Oper} {a : Act} {Q : Exit → Act → World → Prop} (hg : o.guard = none) (sl x : Operand) (hop : o.op = Op.call { callee := Callee.builtin Builtin.append, args := #[sl, x], argTypes := #[31, 31] })
    (b z : Nat) (g : Option Nat) (v : Value) (l : List Int) (hs : a.eval sl = v) (h : Opn wr b z g v l) (x0 : Int) (ty : TypeId) (c : Nat) (hx : a.eval x = .slice (some ⟨wr.heap.size, 0, none⟩) 1 c) (b1 : l.length ≤ 1099511627776)
    (hK : ∀ v' w', IntOwn w' z v' (l ++ [x0]) → wr.grownBy w' g → (v'.ownBlock = v.ownBlock ∧ g = v.ownBlock ∨ ∃ k, v'.ownBlock = some k ∧ wr.heap.size ≤ k) → wpList Tryz.prog ops Q rest (a.put o.dst v') w') :
    wpList Tryz.prog ops Q (o :: rest) a (wr.alloc (.cells #[.int .i64 x0] ty)) := by
  have h0 : Below wr.heap.size wr (wr.alloc (.cells #[.int .i64 x0] ty)) := (Below.refl _ _).alloc (Nat.le_refl _) _
  have s1 : (wr.alloc (.cells #[.int .i64 x0] ty)).heap.size = wr.heap.size + 1 := Array.size_push _
  obtain ⟨i0, hi, hz0, hz1, hz2⟩ := info_parts infoIntL
  have one : ∀ u ∈ [Value.int .i64 x0], u.oneCell' = true := by
    intro u hu
    rw [List.mem_singleton.1 hu]
    rfl
  have hcell : ∀ j u, [Value.int .i64 x0][j]? = some u → (wr.alloc (.cells #[.int .i64 x0] ty)).cell? ((⟨wr.heap.size, 0, none⟩ : Addr).add j) = some u := cell_one_new wr _ ty
  have g0 : ∀ r, wr.grownBy (wr.alloc (.cells #[.int .i64 x0] ty)) r := fun r => ⟨h0.os, h0.tape, h0.output, h0.size, fun k hk _ => h0.block k hk⟩
  have fresh : ∀ (w' : World) (v' : Value) (n : Nat) (xs : List Value), w'.ownsRow (wr.alloc (.cells #[.int .i64 x0] ty)).heap.size 3 1 v' n xs → n ≠ 0 → ∃ k, v'.ownBlock = some k ∧ wr.heap.size ≤ k := by
    intro w' v' n xs hh hn
    rcases hh.2 with ⟨_, q⟩ | ⟨k, cap, cur, rfl, hk, _⟩
    · exact absurd q hn
    · exact ⟨k, rfl, by omega⟩
  rcases h.how with ⟨h1, h2⟩ | ⟨h1, a1, h2⟩
  · have h1' := IntOwn.below h1 h0 (Nat.le_refl _)
    refine wpList_append_own_at _ hg sl x 31 hop z 3 i0 _ 1 8 Tryz.underlying31 hi hz0 hz1 hz2 rfl (by decide) v l.length (l.map (Value.int .i64)) hs h1' ⟨wr.heap.size, 0, none⟩ 1 c [Value.int .i64 x0] hx rfl hcell one (by unfold maxLen; omega) (by omega) (by have := h.hi; omega) ?_
    intro v' w' r1 r2 _ r4
    refine hK v' w' ?_ ?_ ?_
    · unfold IntOwn
      rw [List.length_append, List.map_append]
      exact r1
    · rw [h2]
      exact (g0 _).trans r2
    · rcases r4 with r4 | r4
      · exact .inl ⟨r4, h2⟩
      · exact .inr ⟨_, r4, by omega⟩
  · subst h2
    refine wpList_append_grows _ hg sl x 31 hop 3 i0 _ 1 8 Tryz.underlying31 hi hz0 hz1 hz2 rfl (by decide) a1 l.length l.length (l.map (Value.int .i64)) hs ?_ (by simp) ?_ ⟨wr.heap.size, 0, none⟩ 1 c [Value.int .i64 x0] hx rfl hcell one (by omega) (by unfold maxLen; omega) (by omega) ?_
    · intro e
      subst e
      rcases h.arg with ⟨e, _⟩ | ⟨_, _, _, e, _⟩
      · subst e
        exact ⟨rfl, rfl⟩
      · cases e
    · intro b2 e j u hj
      subst e
      rw [List.getElem?_map] at hj
      cases ej : l[j]? with
      | none => rw [ej] at hj; cases hj
      | some y =>
        rw [ej] at hj
        cases hj
        have harg := h.arg.below h0 (Nat.le_refl _)
        rcases harg with ⟨e, _⟩ | ⟨b3, off, c3, e, _, _, hc⟩
        · subst e
          cases ej
        · cases e
          rw [add_off]
          exact hc j y ej
    · intro v' w' r1 r2
      refine hK v' w' ?_ ?_ (.inr (fresh w' v' _ _ r1 (by omega)))
      · refine IntOwn.less (B := (wr.alloc (.cells #[.int .i64 x0] ty)).heap.size) ?_ (by have := h.hi; omega)
        unfold IntOwn
        rw [List.length_append, List.map_append]
        exact r1
      · rw [h1]
        exact (g0 _).trans r2

/-- What lies behind the pointer after a call. -/
def Aft (W w' : World) (b z : Nat) (g : Option Nat) (vt vo : Value) (o : List Int) (i' : Nat) (o' : List Int) (wt' : Int) : Prop :=
  ∃ vo', Lies w' b (stO vt (i' : Int) vo' wt') ∧ IntArg w' vo' o' ∧ (IntOwn W z vo o → IntOwn w' z vo' o' ∧ (vo'.ownBlock = vo.ownBlock ∨ ∃ k, vo'.ownBlock = some k ∧ W.heap.size ≤ k)) ∧ Apart b (b + 1) vo' ∧
    (o' ≠ [] → ∀ k, vo'.ownBlock = some k → (vo.ownBlock = some k ∧ (o ≠ [] ∨ g = some k)) ∨ W.heap.size ≤ k) ∧ Kp W w' b g
theorem IntArg.ownlt {w : World} {v : Value} {l : List Int} (h : IntArg w v l) (hne : l ≠ []) : ∀ k, v.ownBlock = some k → k < w.heap.size := by
  intro k hk
  rcases h with ⟨e, _⟩ | ⟨b, off, c, rfl, _, q, _⟩
  · exact absurd e hne
  · cases hk
    exact q
theorem apart_fresh {w : World} {b z : Nat} {v : Value} {l : List Int} (h : IntOwn w z v l) (hz : b < z) : Apart b (b + 1) v := IntOwn.apart h hz
theorem IntOwn.keptK {W w' : World} {b z : Nat} {v : Value} {o : List Int} (h : IntOwn W z v o) (hz : b < z) (k : Kp W w' b none) : IntOwn w' z v o := by
  refine World.ownsRow.kept h k.grown ?_
  rcases hv : v.ownBlock with _ | m
  · exact .inl rfl
  · right
    intro e
    injection e with e
    have := (World.ownsRow.lt h m hv).1
    omega
/-- Nothing is opened or closed. -/
theorem Aft.same {W w' : World} {b z : Nat} {g : Option Nat} {vt vo : Value} {o : List Int} {i' : Nat} {wt' : Int} (h : Opn W b z g vo o) (hl : Lies w' b (stO vt (i' : Int) vo wt')) (k : Kp W w' b none) : Aft W w' b z g vt vo o i' o wt' :=
  ⟨vo, hl, (h.kept k).arg, fun q => ⟨IntOwn.keptK q h.lo k, .inl rfl⟩, h.away, fun hne m hm => .inl ⟨hm, .inl hne⟩, Kp.of_grown k.grown⟩
theorem own_cut {w : World} {z : Nat} {a : Option Addr} {c : Nat} {o : List Int} (h : IntOwn w z (.slice a o.length c) o) (hne : o ≠ []) : IntOwn w z (.slice a (o.length - 1) c) o.dropLast := by
  have hl : o.length ≠ 0 := fun e => hne (List.eq_nil_of_length_eq_zero e)
  rcases h.2 with ⟨_, q⟩ | ⟨k, cap, cur, e, hk, hc, h1, h2, h3, h4⟩
  · exact absurd q hl
  · cases e
    refine ⟨by simp, .inr ⟨k, c, cur, ?_, hk, hc, ?_, h2, h3, ?_⟩⟩
    · rw [List.length_dropLast]
    · rw [List.length_dropLast]
      omega
    · rw [List.dropLast_eq_take, List.map_take, ← h4, List.take_take]
      congr 1
      simp only [List.length_take]
      omega
/-- The innermost block is closed. -/
theorem Aft.pop {W w' : World} {b z : Nat} {g : Option Nat} {vt : Value} {a : Option Addr} {c : Nat} {o : List Int} {i' : Nat} {wt' : Int} (h : Opn W b z g (.slice a o.length c) o) (hne : o ≠ []) (hl : Lies w' b (stO vt (i' : Int) (.slice a (o.length - 1) c) wt')) (k : Kp W w' b none) : Aft W w' b z g vt (.slice a o.length c) o i' o.dropLast wt' := by
  have hlen : o.length ≠ 0 := fun e => hne (List.eq_nil_of_length_eq_zero e)
  have h' := h.kept k
  have hb : (Value.slice a (o.length - 1) c).ownBlock = (Value.slice a o.length c).ownBlock := by cases a <;> rfl
  refine ⟨_, hl, ?_, fun q => ⟨own_cut (IntOwn.keptK q h.lo k) hne, .inl hb⟩, ?_, fun _ m hm => .inl ⟨hb ▸ hm, .inl hne⟩, Kp.of_grown k.grown⟩
  · rcases h'.arg with ⟨e, _⟩ | ⟨b2, off, c2, e, q1, q2, q3⟩
    · exact absurd e hne
    · cases e
      rw [List.dropLast_eq_take]
      exact IntArg.take q1 q2 q3 (by omega)
  · intro b2 off n c2 e hn
    cases e
    exact h.away b2 off _ c rfl hlen
/-- A block is opened. -/
theorem Aft.push {W w' : World} {b z : Nat} {g : Option Nat} {vt vo vo' : Value} {o o' : List Int} {i' : Nat} {wt' : Int} (h : Opn W b z g vo o) (hl : Lies w' b (stO vt (i' : Int) vo' wt')) (hown : IntOwn w' z vo' o') (hf : (vo'.ownBlock = vo.ownBlock ∧ g = vo.ownBlock) ∨ ∃ k, vo'.ownBlock = some k ∧ W.heap.size ≤ k) (k : Kp W w' b g) : Aft W w' b z g vt vo o i' o' wt' := by
  refine ⟨vo', hl, hown.arg, fun _ => ⟨hown, hf.imp (fun q => q.1) id⟩, apart_fresh hown h.lo, fun _ m hm => ?_, k⟩
  rcases hf with ⟨q1, q2⟩ | ⟨m2, q1, q2⟩
  · exact .inl ⟨q1 ▸ hm, .inr (by rw [q2, ← q1, hm])⟩
  · rw [hm] at q1
    injection q1 with q1
    exact .inr (by omega)

theorem top_any (v : Value) (o : List Int) (w : World) (ho : IntArg w v o) (hf : o.length ≤ 1099511627776) :
    Calls Tryz.prog 87 #[v] w fun e w' => e = .returned (.int .i64 (topL o)) ∧ w' = w := by
  by_cases hl : o.length = 0
  · obtain ⟨a, c, rfl⟩ := ho.len
    have h0 : o = [] := List.eq_nil_of_length_eq_zero hl
    have ht : topL o = 0 := by rw [h0]; rfl
    rw [hl, ht]
    clear hl h0 ht ho hf
    go_enter Tryz.func87, Tryz.ntmps87
    go_wp2
    go_ret
    exact ⟨rfl, rfl⟩
  · obtain ⟨b, off, c, rfl, hlc, hlt, hc⟩ := ho.cells hl
    obtain ⟨m, hm⟩ : ∃ m, o.length = m + 1 := ⟨o.length - 1, by omega⟩
    have hx := hc m _ (top_at hm)
    obtain ⟨hw1, hw2⟩ := wrap_pred o.length (by omega) (by omega)
    have em : o.length - 1 = m := by omega
    rw [em] at hw1 hw2
    have hl0 : ((o.length : Int) == 0) = false := by rw [beq_eq_false_iff_ne]; omega
    have i0 : (0 : Int) ≤ (m : Int) := by omega
    have i1 : (m : Int) < (o.length : Int) := by omega
    clear hc hlc hm ho em hl hf hlt
    go_enter Tryz.func87, Tryz.ntmps87
    go_wp2
    go_ret
    exact ⟨rfl, rfl⟩
theorem outer_any (a : Option Addr) (c : Nat) (o : List Int) (w : World) (ho : IntArg w (.slice a o.length c) o) (hf : o.length ≤ 1099511627776) (hne : o ≠ []) :
    Calls Tryz.prog 88 #[.slice a o.length c] w fun e w' => e = .returned (.slice a (o.length - 1 : Nat) c) ∧ w' = w := by
  have hl : o.length ≠ 0 := fun e => hne (List.eq_nil_of_length_eq_zero e)
  obtain ⟨b, off, c2, e, hlc, hlt, hc⟩ := ho.cells hl
  cases e
  obtain ⟨hw1, hw2⟩ := wrap_pred o.length (by omega) (by omega)
  obtain ⟨m, hm⟩ : ∃ m, o.length - 1 = m := ⟨_, rfl⟩
  rw [hm] at hw1 hw2
  rw [hm]
  have i0 : (0 : Int) ≤ (m : Int) := by omega
  have i1 : (m : Int) ≤ (c : Int) := by omega
  have i2 : (m : Int) ≤ (o.length : Int) := by omega
  clear hc hlc hlt ho hf hl hne hm
  go_enter Tryz.func88, Tryz.ntmps88
  go_wp2
  go_ret
  exact ⟨by simp, rfl⟩
theorem stands_any (t : Tk) (k : Int) (w : World) :
    Calls Tryz.prog 85 #[.int .i64 k, .agg #[.int .i64 t.kind, .string t.text, .int .i64 t.line, .int .i64 t.col]] w fun e w' => e = .returned (.agg #[.int .i64 k, .string ⟨#[]⟩, .int .i64 t.line, .int .i64 t.col]) ∧ Below w.heap.size w w' := by
  go_enter Tryz.func85, Tryz.ntmps85
  go_wp2
  go_returns
  exact ⟨rfl, by go_grown⟩
end Go.Proofs.YtmgclgojmckfhaaGreatDoor.Lay
/-
  The program's own layout: begin, line, end, over a state behind a pointer. Conditions: sizes.
-/
namespace Go.Proofs.YtmgclgojmckfhaaGreatDoor.Lay
open Tks Mrk Go.RowKit
set_option linter.unusedSimpArgs false
set_option linter.unusedVariables false

theorem wrap_succ (i : Nat) (h : i ≤ 1099511627777) : IntKind.i64.wrap ((i : Int) + 1) = (i : Int) + 1 ∧ wrap64 ((i : Int) + 1) = (i : Int) + 1 := by
  have e : wrap64 ((i : Int) + 1) = (i : Int) + 1 := IntWalk.wrap64_in _ ⟨by omega, by omega⟩
  exact ⟨by rw [IntWalk.i64_left]; exact e, e⟩
theorem Lies.set1 {W : World} {b : Nat} {vt vo : Value} {i wt : Int} (h : Lies W b (stO vt i vo wt)) (x : Int) : Lies (W.setCell ⟨b, 1, none⟩ (.int .i64 x)) b (stO vt x vo wt) := Lies.put h 1 _
theorem Lies.set2 {W : World} {b : Nat} {vt vo : Value} {i wt : Int} (h : Lies W b (stO vt i vo wt)) (x : Value) : Lies (W.setCell ⟨b, 2, none⟩ x) b (stO vt i x wt) := Lies.put h 2 _
theorem Lies.set3 {W : World} {b : Nat} {vt vo : Value} {i wt : Int} (h : Lies W b (stO vt i vo wt)) (x : Int) : Lies (W.setCell ⟨b, 3, none⟩ (.int .i64 x)) b (stO vt i vo x) := Lies.put h 3 _
section
variable (vt vo : Value) (i : Nat) (o : List Int) (wt col : Int) (b z : Nat) (g : Option Nat) (w : World) (hs : Lies w b (stO vt (i : Int) vo wt)) (ho : Opn w b z g vo o) (hf : o.length ≤ 1099511627776) (hi : i ≤ 1099511627776)
include hs ho hf hi
omit hi in
theorem begin_low (hq : ¬ topL o < col) :
    Calls Tryz.prog 84 #[.pointer (some ⟨b, 0, none⟩), .int .i64 col] w fun e w' => e = .returned (.tuple #[]) ∧ Aft w w' b z g vt vo o i o 1 := by
  have T := Lib.hid (top_any vo o w ho.arg hf)
  obtain ⟨a, c, rfl⟩ := ho.arg.len
  obtain ⟨c0, c1, c2, c3, f0, f1, f2, f3⟩ := hs.four
  have d : decide (col ≤ topL o) = true := decide_eq_true (by omega)
  have HS := Lib.hid hs
  have HO := Lib.hid ho
  clear hs ho hf hq
  go_enter Tryz.func84, Tryz.ntmps84
  go_wp2_with (first
    | (go_at_call 87; refine T.out.mono ?_; rintro e w2 ⟨rfl, hw⟩; rw [hw]; clear hw))
  refine bodyPost_ret (by simp [results, Tryz.results84, go_sem]; try rfl) rfl ?_
  exact ⟨rfl, Aft.same HO.out (HS.out.set3 1) ((Kp.refl _ _ _).set 3 _)⟩
theorem begin_high (hq : topL o < col) :
    Calls Tryz.prog 84 #[.pointer (some ⟨b, 0, none⟩), .int .i64 col] w fun e w' => e = .returned (.tuple #[]) ∧ Aft w w' b z g vt vo o (i + 1) (o ++ [col]) wt := by
  have T := Lib.hid (top_any vo o w ho.arg hf)
  obtain ⟨a, c, rfl⟩ := ho.arg.len
  obtain ⟨c0, c1, c2, c3, f0, f1, f2, f3⟩ := hs.four
  have d : decide (col ≤ topL o) = false := decide_eq_false (by omega)
  obtain ⟨y1, y2⟩ := wrap_succ i (by omega)
  have HS := Lib.hid hs
  have HO := Lib.hid ho
  have HF := Lib.hid hf
  clear hs ho hf hi hq
  go_enter Tryz.func84, Tryz.ntmps84
  go_wp2_with (first
    | (go_at_call 87; refine T.out.mono ?_; rintro e w2 ⟨rfl, hw⟩; rw [hw]; clear hw)
    | (at_builtin; refine append_open w rfl _ _ rfl b z g (.slice a o.length c) o rfl HO.out col _ _ rfl HF.out ?_; intro v1 w1 h1 k1 e1; obtain ⟨p2, n2, q2, rfl⟩ := own_slice h1; have H1 := Lib.hid h1; have K1 := Lib.hid k1; have E1 := Lib.hid e1; have L1 := Lib.hid ((Kp.of_row (b := b + w.heap.size) K1.out).lies HS.out (by have := HS.out.lt; omega) (fun e => by have := HO.out.gz b e.symm; have := HO.out.lo; omega)); clear h1 k1 e1; obtain ⟨d0, d1, d2, d3, j0, j1, j2, j3⟩ := L1.out.four))
  go_end0
  refine ⟨rfl, Aft.push (z := z) HO.out (((L1.out.set2 _).set1 ((i + 1 : Nat) : Int))) ?_ E1.out (((Kp.of_row K1.out).set 2 _).set 1 _)⟩
  have h := H1.out
  have lo := HO.out.lo
  unfold IntOwn at h ⊢
  exact ownsRow_setCell_below (ownsRow_setCell_below h (by dsimp only; omega) _) (by dsimp only; omega) _
omit hi in
/-- line: the column ends the innermost block. -/
theorem line_shut (hq : 0 < topL o ∧ col < topL o) :
    Calls Tryz.prog 86 #[.pointer (some ⟨b, 0, none⟩), .int .i64 col] w fun e w' => e = .returned (.int .i64 20) ∧ Aft w w' b z g vt vo o i o.dropLast wt := by
  have T := Lib.hid (top_any vo o w ho.arg hf)
  have hne : o ≠ [] := top_ne hq.1
  obtain ⟨a, c, rfl⟩ := ho.arg.len
  have U := Lib.hid (outer_any a c o w ho.arg hf hne)
  obtain ⟨c0, c1, c2, c3, f0, f1, f2, f3⟩ := hs.four
  have d1 : decide (0 < topL o) = true := decide_eq_true (by omega)
  have d2 : decide (col < topL o) = true := decide_eq_true (by omega)
  have HS := Lib.hid hs
  have HO := Lib.hid ho
  have HN := Lib.hid hne
  clear hs ho hf hq hne
  go_enter Tryz.func86, Tryz.ntmps86
  go_wp2_with (first
    | (go_at_call 87; refine T.out.mono ?_; rintro e w2 ⟨rfl, hw⟩; rw [hw]; clear hw)
    | (go_at_call 88; refine U.out.mono ?_; rintro e w2 ⟨rfl, hw⟩; rw [hw]; clear hw))
  go_ret
  exact ⟨rfl, Aft.pop HO.out HN.out (HS.out.set2 _) ((Kp.refl _ _ _).set 2 _)⟩
/-- line: a mark that is passed, with a token of its own or without. -/
theorem line_past (hq : ¬ (0 < topL o ∧ col < topL o)) :
    Calls Tryz.prog 86 #[.pointer (some ⟨b, 0, none⟩), .int .i64 col] w fun e w' => e = .returned (.int .i64 (if 0 < topL o ∧ col = topL o then 19 else 0)) ∧ Lies w' b (stO vt ((i + 1 : Nat) : Int) vo 0) ∧ Kp w w' b none := by
  have T := Lib.hid (top_any vo o w ho.arg hf)
  obtain ⟨a, c, rfl⟩ := ho.arg.len
  obtain ⟨c0, c1, c2, c3, f0, f1, f2, f3⟩ := hs.four
  obtain ⟨y1, y2⟩ := wrap_succ i (by omega)
  have FIN := Lib.hid (And.intro ((hs.set1 ((i + 1 : Nat) : Int)).set3 0) (((Kp.refl w b none).set 1 (.int .i64 ((i + 1 : Nat) : Int))).set 3 (.int .i64 0)))
  clear hs ho hf hi
  rcases Int.lt_or_le 0 (topL o) with q1 | q1
  · have d1 : decide (0 < topL o) = true := decide_eq_true q1
    have d2 : decide (col < topL o) = false := decide_eq_false (by omega)
    by_cases q2 : col = topL o
    · rw [if_pos ⟨q1, q2⟩]
      have d3 : (col == topL o) = true := beq_iff_eq.2 q2
      clear hq q1 q2
      go_enter Tryz.func86, Tryz.ntmps86
      go_wp2_with (first
        | (go_at_call 87; refine T.out.mono ?_; rintro e w2 ⟨rfl, hw⟩; rw [hw]; clear hw))
      go_ret
      exact ⟨rfl, FIN.out⟩
    · rw [if_neg (fun e => q2 e.2)]
      have d3 : (col == topL o) = false := beq_eq_false_iff_ne.2 q2
      clear hq q1 q2
      go_enter Tryz.func86, Tryz.ntmps86
      go_wp2_with (first
        | (go_at_call 87; refine T.out.mono ?_; rintro e w2 ⟨rfl, hw⟩; rw [hw]; clear hw))
      go_ret
      exact ⟨rfl, FIN.out⟩
  · rw [if_neg (by omega)]
    have d1 : decide (0 < topL o) = false := decide_eq_false (by omega)
    clear hq q1
    go_enter Tryz.func86, Tryz.ntmps86
    go_wp2_with (first
      | (go_at_call 87; refine T.out.mono ?_; rintro e w2 ⟨rfl, hw⟩; rw [hw]; clear hw))
    go_ret
    exact ⟨rfl, FIN.out⟩
end
end Go.Proofs.YtmgclgojmckfhaaGreatDoor.Lay
/-
  The program's own layout: end, and what lies where while step looks on. Conditions: sizes.
-/
namespace Go.Proofs.YtmgclgojmckfhaaGreatDoor.Lay
open Tks Mrk Go.RowKit
set_option linter.unusedSimpArgs false
set_option linter.unusedVariables false

theorem grown_below9 {w w' : World} (r : Option Nat) (h : Below w.heap.size w w') : w.grownBy w' r := ⟨h.os, h.tape, h.output, h.size, fun k hk _ => h.block k hk⟩
theorem grown_set9 {w w1 : World} {b : Nat} (h : w.grownBy w1 (some b)) (k : Nat) (v : Value) : w.grownBy (w1.setCell ⟨b, k, none⟩ v) (some b) := by
  refine ⟨h.os, h.tape, h.output, ?_, fun j hj hr => ?_⟩
  · rw [World.size_setCell]
    exact h.size
  · rw [Below.heap_setCell _ _ _ _ (by intro e; exact hr (by rw [e]))]
    exact h.block j hj hr
theorem grown_set4 {w w1 : World} {b : Nat} (h : w.grownBy w1 (some b)) (x y p q : Value) : w.grownBy (set4 w1 b x y p q) (some b) := grown_set9 (grown_set9 (grown_set9 (grown_set9 h 0 x) 1 y) 2 p) 3 q
/-- What a step that calls others leaves behind, where one block more (the result's) is written. -/
theorem Aft.fin {W wr w1 w2 : World} {b z R : Nat} {g : Option Nat} {vt vo : Value} {o o' : List Int} {i' : Nat} {wt' : Int} (h0 : Opn W b z g vo o) (k0 : Kp W wr b none) (h : Aft wr w1 b z g vt vo o i' o' wt') (k2 : w1.grownBy w2 (some R)) (R1 : W.heap.size ≤ R) (R2 : R < wr.heap.size) (hb : b < W.heap.size) : Aft W w2 b z g vt vo o i' o' wt' := by
  obtain ⟨v, l1, a1, o1, p1, f1, k1⟩ := h
  have notR : o' ≠ [] → v.ownBlock ≠ some R := by
    intro hne e
    rcases f1 hne R e with ⟨q1, q2 | q2⟩ | q1
    · have := h0.arg.ownlt q2 R q1
      omega
    · have := (h0.gz R q2).2
      omega
    · omega
  refine ⟨v, (k2.block b (Nat.lt_of_lt_of_le hb (Nat.le_trans k0.size k1.size)) (by simp; omega)).trans l1, ?_, fun q => ?_, p1, fun hne m hm => ?_, ?_⟩
  · refine a1.moved k2.size fun c off q e hn => ?_
    have hne : o' ≠ [] := fun e => hn (by rw [e]; rfl)
    refine k2.block c (a1.ownlt hne c (by rw [e]; rfl)) fun e2 => notR hne ?_
    rw [← e2, e]
    rfl
  · obtain ⟨q1, q2⟩ := o1 (IntOwn.keptK q h0.lo k0)
    refine ⟨World.ownsRow.kept q1 k2 ?_, ?_⟩
    · right
      intro e
      rcases q2 with q2 | ⟨m, q2, q3⟩
      · have := (World.ownsRow.lt q R (by rw [← q2, e])).2
        omega
      · rw [e] at q2
        injection q2 with q2
        omega
    · rcases q2 with q2 | ⟨m, q2, q3⟩
      · exact .inl q2
      · exact .inr ⟨m, q2, Nat.le_trans k0.size q3⟩
  · rcases f1 hne m hm with q | q
    · exact .inl q
    · exact .inr (Nat.le_trans k0.size q)
  · have k01 : Kp W w1 b g := (Kp.of_grown k0.grown).trans k1
    exact ⟨k2.os.trans k01.os, k2.tape.trans k01.tape, k2.output.trans k01.output, Nat.le_trans k01.size k2.size, fun m hm h1 h2 => (k2.block m (Nat.lt_of_lt_of_le hm k01.size) (by simp; omega)).trans (k01.block m hm h1 h2)⟩
section
variable (vt vo : Value) (i : Nat) (o : List Int) (wt : Int) (b z : Nat) (g : Option Nat) (w : World) (hs : Lies w b (stO vt (i : Int) vo wt)) (ho : Opn w b z g vo o) (hf : o.length ≤ 1099511627776) (hnn : ∀ c ∈ o, 0 ≤ c)
include hs ho hf hnn
set_option maxHeartbeats 2000000 in
theorem end_any :
    Calls Tryz.prog 89 #[.pointer (some ⟨b, 0, none⟩)] w fun e w' => e = .returned (.tuple #[tkV9 (nextR [] i o wt).tok, .int .i64 (nextR [] i o wt).err]) ∧ Aft w w' b z g vt vo o i (nextR [] i o wt).opn wt := by
  have T := Lib.hid (fun W h => top_any vo o W h hf)
  have HB := Lib.hid hs.lt
  have HT0 := Lib.hid (topL_nonneg hnn)
  obtain ⟨a, c, rfl⟩ := ho.arg.len
  have U := Lib.hid (fun W h q => outer_any a c o W h hf q)
  have HO := Lib.hid ho
  have HS := Lib.hid hs
  clear hs ho hf hnn
  have hN0 : nextR [] i o wt = if o = [] then ⟨endT 21, i, o, wt, 0⟩ else if 0 < topL o then ⟨endT 20, i, o.dropLast, wt, 0⟩ else ⟨zeroT, i, o, wt, 90⟩ := by unfold nextR; rfl
  generalize nextR [] i o wt = n at *
  go_enter Tryz.func89, Tryz.ntmps89
  go_upto_region 1 with fail
  refine gen_world (fun X => Below w.heap.size w X ∧ Lies X w.heap.size (tkO zeroT) ∧ w.heap.size < X.heap.size) ⟨(Below.refl _ _).alloc (Nat.le_refl _) _, Lies.new w _, by rw [World.size_alloc]; omega⟩ ?_
  rintro X ⟨bX, lX, sX⟩
  have hSX := HS.out.below bX HB.out
  obtain ⟨c0, c1, c2, c3, f0, f1, f2, f3⟩ := hSX.four
  obtain ⟨x0, x1, x2, x3, y0, y1, y2, y3⟩ := tokLies lX
  have KX : Hid (Kp w X b none) := Kp.of_below bX
  have OX := Lib.hid (HO.out.kept (Kp.of_below bX))
  have SX := Lib.hid sX
  have LX := Lib.hid lX
  have HX := Lib.hid hSX
  clear bX lX sX hSX
  generalize hR : w.heap.size = R at *
  have HR := Lib.hid hR
  clear hR
  have n1 : ¬ R = b := by have := HB.out; omega
  have n2 : ¬ b = R := by have := HB.out; omega
  by_cases h1 : o = []
  · rw [if_pos h1] at hN0
    have HN := Lib.hid hN0
    clear hN0
    have l0 : ((o.length : Int) == 0) = true := by rw [h1]; rfl
    go_wp2_with fail
    refine bodyPost_ret (by simp [results, Tryz.results89, go_sem, x0, x1, x2, x3, n1, n2]; try rfl) rfl ?_
    rw [HN.out]
    exact ⟨rfl, Aft.fin HO.out KX.out (Aft.same OX.out HX.out (Kp.refl _ _ _)) (grown_set4 (grown_below9 _ (Below.refl _ _)) _ _ _ _) (Nat.le_of_eq HR.out) SX.out (by rw [HR.out]; exact HB.out)⟩
  · have l0 : ((o.length : Int) == 0) = false := by
      rw [beq_eq_false_iff_ne]
      intro e
      exact h1 (List.eq_nil_of_length_eq_zero (by omega))
    rw [if_neg h1] at hN0
    by_cases h2 : 0 < topL o
    · rw [if_pos h2] at hN0
      have HN := Lib.hid hN0
      clear hN0
      have l1 : (topL o == 0) = false := by rw [beq_eq_false_iff_ne]; omega
      have H1 := Lib.hid h1
      clear h1 h2
      go_wp2_with (first
        | (go_at_call 87; refine (T.out X OX.out.arg).mono ?_; rintro e w2 ⟨rfl, hw⟩; rw [hw]; clear hw)
        | (go_at_call 88; refine (U.out X OX.out.arg H1.out).mono ?_; rintro e w2 ⟨rfl, hw⟩; rw [hw]; clear hw))
      refine bodyPost_ret (by simp [results, Tryz.results89, go_sem, x0, x1, x2, x3, n1, n2]; try rfl) rfl ?_
      rw [HN.out]
      exact ⟨rfl, Aft.fin HO.out KX.out (Aft.pop OX.out H1.out (HX.out.set2 _) ((Kp.refl _ _ _).set 2 _)) (grown_set4 (grown_below9 _ (Below.refl _ _)) _ _ _ _) (Nat.le_of_eq HR.out) SX.out (by rw [HR.out]; exact HB.out)⟩
    · rw [if_neg h2] at hN0
      have HN := Lib.hid hN0
      have l1 : (topL o == 0) = true := by rw [beq_iff_eq]; have := HT0.out; omega
      clear hN0 h1 h2
      go_wp2_with (first
        | (go_at_call 87; refine (T.out X OX.out.arg).mono ?_; rintro e w2 ⟨rfl, hw⟩; rw [hw]; clear hw)
        )
      refine bodyPost_ret (by simp [results, Tryz.results89, go_sem, x0, x1, x2, x3, n1, n2]; try rfl) rfl ?_
      rw [HN.out]
      exact ⟨rfl, Aft.fin HO.out KX.out (Aft.same OX.out HX.out (Kp.refl _ _ _)) (grown_set4 (grown_below9 _ (Below.refl _ _)) _ _ _ _) (Nat.le_of_eq HR.out) SX.out (by rw [HR.out]; exact HB.out)⟩
end
end Go.Proofs.YtmgclgojmckfhaaGreatDoor.Lay
