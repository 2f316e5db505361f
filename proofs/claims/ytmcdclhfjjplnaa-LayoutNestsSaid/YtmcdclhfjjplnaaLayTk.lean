/-
  Slices of ints that are only read, states as they are read, rows of ints of the call's own. No condition but sizes.
-/
import Derived.Test.YtmcdclhfjjplnaaLayThm
namespace Go.Proofs.Ytmcdclhfjjplnaa.Lay
open Tks Mrk Go.RowKit
set_option linter.unusedSimpArgs false
set_option linter.unusedVariables false

/-- The ints that a slice holds. -/
def IntArg (w : World) (v : Value) (l : List Int) : Prop :=
  (l = [] ∧ ∃ a c, v = .slice a 0 c) ∨
  (∃ b off c, v = .slice (some ⟨b, off, none⟩) l.length c ∧ l.length ≤ c ∧ b < w.heap.size ∧ ∀ (i : Nat) (x : Int), l[i]? = some x → w.cell? ⟨b, off + i, none⟩ = some (.int .i64 x))
theorem IntArg.len {w : World} {v : Value} {l : List Int} (h : IntArg w v l) : ∃ a c, v = .slice a l.length c := by
  rcases h with ⟨rfl, a, c, rfl⟩ | ⟨b, off, c, rfl, -⟩
  · exact ⟨a, c, rfl⟩
  · exact ⟨_, c, rfl⟩
theorem IntArg.below {w w' : World} {v : Value} {l : List Int} {B : Nat} (h : IntArg w v l) (hb : Below B w w') (hB : w.heap.size ≤ B) : IntArg w' v l := by
  rcases h with h | ⟨b, off, c, hv, hlc, hlt, hc⟩
  · exact .inl h
  · exact .inr ⟨b, off, c, hv, hlc, Nat.lt_of_lt_of_le hlt hb.size, fun i x hx => (World.cell?_of_block (hb.block b (Nat.lt_of_lt_of_le hlt hB))).trans (hc i x hx)⟩
theorem IntArg.cells {w : World} {v : Value} {l : List Int} (h : IntArg w v l) (hl : l.length ≠ 0) : ∃ b off c, v = .slice (some ⟨b, off, none⟩) l.length c ∧ l.length ≤ c ∧ b < w.heap.size ∧ ∀ (i : Nat) (x : Int), l[i]? = some x → w.cell? ⟨b, off + i, none⟩ = some (.int .i64 x) := by
  rcases h with ⟨rfl, -⟩ | h
  · exact absurd rfl hl
  · exact h
/-- A beginning of what a slice holds. -/
theorem IntArg.take {w : World} {b off c n : Nat} {l : List Int} (hlc : l.length ≤ c) (hlt : b < w.heap.size) (hc : ∀ (i : Nat) (x : Int), l[i]? = some x → w.cell? ⟨b, off + i, none⟩ = some (.int .i64 x)) (hn : n ≤ l.length) : IntArg w (.slice (some ⟨b, off, none⟩) n c) (l.take n) := by
  refine .inr ⟨b, off, c, by rw [List.length_take, Nat.min_eq_left hn], by rw [List.length_take]; omega, hlt, fun i x hx => hc i x ?_⟩
  rw [List.getElem?_take] at hx
  split at hx
  · exact hx
  · cases hx
theorem infoIntL : (Try.prog.info? 3).map (fun i => (i.zero, i.size, i.bytes)) = some (some (.int .i64 0), 1, 8) := by kernel_rfl
/-- A row of ints of the call's own. -/
def IntOwn (w : World) (B : Nat) (v : Value) (l : List Int) : Prop := w.ownsRow B 3 1 v l.length (l.map (Value.int .i64))
theorem IntOwn.nil (w : World) (B : Nat) : IntOwn w B (.slice none 0 0) [] := World.ownsRow_nil _ _ _ _
theorem IntOwn.arg {w : World} {B : Nat} {v : Value} {l : List Int} (h : IntOwn w B v l) : IntArg w v l := by
  rcases h.2 with ⟨rfl, h0⟩ | ⟨g, cap, cur, rfl, hb, hg, hnc, _⟩
  · obtain rfl : l = [] := List.eq_nil_of_length_eq_zero h0
    exact .inl ⟨rfl, _, _, rfl⟩
  · refine .inr ⟨g, 0, cap, rfl, hnc, lt_of_block hg, fun i x hx => ?_⟩
    have := World.ownsRow.cells h (g := g) rfl i (.int .i64 x) (by rw [List.getElem?_map, hx]; rfl)
    rw [add_plain] at this
    rw [Nat.zero_add]
    exact this
theorem IntOwn.below {w w' : World} {B C : Nat} {v : Value} {l : List Int} (h : IntOwn w B v l) (hb : Below C w w') (hC : w.heap.size ≤ C) : IntOwn w' B v l := by
  have hg : w.grownBy w' none := ⟨hb.os, hb.tape, hb.output, hb.size, fun k hk _ => hb.block k (by omega)⟩
  rcases hv : v.ownBlock with _ | g
  · exact World.ownsRow.kept h hg (.inl hv)
  · exact World.ownsRow.kept h hg (.inr (by rw [hv]; simp))
/-- append of what a slice holds, whatever the slice, to a row of the call's own. -/
theorem append_ints (w : World) {ops : Array Oper} {rest : List Oper} {o : Oper} {a : Act} {Q : Exit → Act → World → Prop} (hg : o.guard = none) (sl x : Operand) (hop : o.op = Op.call { callee := Callee.builtin Builtin.append, args := #[sl, x], argTypes := #[23, 23] })
    (base : Nat) (v : Value) (l0 : List Int) (hs : a.eval sl = v) (hown : IntOwn w base v l0) (vx : Value) (l : List Int) (hx : a.eval x = vx) (hsrc : IntArg w vx l) (b1 : l0.length + l.length ≤ 1099511627777) (hB : base ≤ w.heap.size)
    (hK : ∀ v' w', IntOwn w' base v' (l0 ++ l) → Below base w w' → wpList Try.prog ops Q rest (a.put o.dst v') w') :
    wpList Try.prog ops Q (o :: rest) a w := by
  obtain ⟨i0, hi, hz0, hz1, hz2⟩ := info_parts infoIntL
  have one : ∀ u ∈ l.map (Value.int .i64), u.oneCell' = true := by
    intro u hu
    obtain ⟨t, _, rfl⟩ := List.mem_map.1 hu
    rfl
  have bel : ∀ w', w.grownBy w' v.ownBlock → Below base w w' := fun w' hgr => Below.grown (Below.refl base w) hgr hB (fun k hk => (World.ownsRow.lt hown k hk).1)
  have some_ : ∀ (ad : Addr) (c : Nat), vx = .slice (some ad) l.length c → (∀ j u, (l.map (Value.int .i64))[j]? = some u → w.cell? (ad.add j) = some u) → wpList Try.prog ops Q (o :: rest) a w := by
    intro ad c hv hc
    subst hv
    refine wpList_append_own_at w hg sl x 23 hop base 3 i0 _ 1 8 Try.underlying23 hi hz0 hz1 hz2 rfl (by decide) v l0.length (l0.map (Value.int .i64)) hs hown ad l.length c (l.map (Value.int .i64)) hx (by simp) hc one (by unfold maxLen; omega) (by omega) hB ?_
    intro v' w' h1 h2 _ h4
    refine hK v' w' ?_ (bel w' h2)
    unfold IntOwn
    rw [List.length_append, List.map_append]
    exact h1
  rcases hsrc with ⟨rfl, ad, c, rfl⟩ | ⟨b, off, c, rfl, _, _, hc⟩
  · cases ad with
    | some ad => exact some_ ad c rfl (fun j u hj => by simp at hj)
    | none =>
      refine wpList_plain hg fun K hK' => ?_
      have hr := Tks.run_append_nil (P := Try.prog) w 23 o.type 3 i0 Try.underlying23 hi v base 1 l0.length (l0.map (Value.int .i64)) hown c
      unfold Oper.wp execOp
      simp only [hop, resolve, invoke, builtin, Sem.run_bind, Sem.run_pure, Result.andThen_ok, List.map_toArray, List.map_cons, List.map_nil, hs, hx, hr]
      refine hK' _ _ (hK v w (by simpa using hown) (Below.refl _ _))
  · refine some_ _ c rfl (fun j u hj => ?_)
    rw [List.getElem?_map] at hj
    cases e : l[j]? with
    | none => rw [e] at hj; cases hj
    | some x =>
      rw [e] at hj
      cases hj
      rw [← hc j x e]
      congr 1
      unfold Addr.add
      split <;> simp_all
/-- append of one int that was just laid, to a row of the call's own. -/
theorem append_int1 (wr : World) {ops : Array Oper} {rest : List Oper} {o : Oper} {a : Act} {Q : Exit → Act → World → Prop} (hg : o.guard = none) (sl x : Operand) (hop : o.op = Op.call { callee := Callee.builtin Builtin.append, args := #[sl, x], argTypes := #[23, 23] })
    (base : Nat) (v : Value) (l0 : List Int) (hs : a.eval sl = v) (hown : IntOwn wr base v l0) (z : Int) (ty : TypeId) (c : Nat) (hx : a.eval x = .slice (some ⟨wr.heap.size, 0, none⟩) 1 (c + 1)) (b1 : l0.length + 1 ≤ 1099511627777) (hB : base ≤ wr.heap.size)
    (hK : ∀ v' w', IntOwn w' base v' (l0 ++ [z]) → Below base wr w' → wpList Try.prog ops Q rest (a.put o.dst v') w') :
    wpList Try.prog ops Q (o :: rest) a (wr.alloc (.cells #[.int .i64 z] ty)) := by
  have h0 : Below wr.heap.size wr (wr.alloc (.cells #[.int .i64 z] ty)) := (Below.refl _ _).alloc (Nat.le_refl _) _
  have s1 : (wr.alloc (.cells #[.int .i64 z] ty)).heap.size = wr.heap.size + 1 := Array.size_push _
  refine append_ints _ hg sl x hop base v l0 hs (hown.below h0 (Nat.le_refl _)) _ [z] hx ?_ b1 (by omega) ?_
  · refine .inr ⟨wr.heap.size, 0, c + 1, rfl, by simp, by omega, fun i y hy => ?_⟩
    rw [new_cell, Nat.zero_add]
    have hi := (List.getElem?_eq_some_iff.1 hy).1
    simp only [List.length_cons, List.length_nil] at hi
    obtain rfl : i = 0 := by omega
    cases hy
    rfl
  · intro v' w' h1 h2
    exact hK v' w' h1 ((h0.mono hB).trans h2)

/-- A state as it is read. -/
structure Sx where
  toks : List Tk
  at_ : Int
  opn : List Int
  wait : Int
def zeroS : Sx := ⟨[], 0, [], 0⟩
def StV (w : World) (v : Value) (s : Sx) : Prop := ∃ vt vo, v = .agg #[vt, .int .i64 s.at_, vo, .int .i64 s.wait] ∧ TkArg w vt s.toks ∧ IntArg w vo s.opn
theorem StV.below {w w' : World} {v : Value} {s : Sx} {B : Nat} (h : StV w v s) (hb : Below B w w') (hB : w.heap.size ≤ B) : StV w' v s := by
  obtain ⟨vt, vo, e, h1, h2⟩ := h
  exact ⟨vt, vo, e, h1.below hb hB, h2.below hb hB⟩
theorem StV.zero (w : World) : StV w (.agg #[.slice none 0 0, .int .i64 0, .slice none 0 0, .int .i64 0]) zeroS := ⟨_, _, rfl, .inl ⟨rfl, _, _, rfl⟩, .inl ⟨rfl, _, _, rfl⟩⟩
/-- May a state be? -/
def okB (s : Sx) : Bool := decide (0 ≤ s.at_) && decide (s.at_ ≤ s.toks.length) && decide (0 ≤ s.wait) && decide (s.wait ≤ 2) && (decide (s.wait ≤ 0) || (match s.toks[s.at_.toNat]? with | some t => t.kind == 16 | none => false)) && s.opn.all (fun c => decide (0 ≤ c))
theorem okB_iff (s : Sx) : okB s = true ↔ ∃ n : Nat, s.at_ = n ∧ Ok s.toks n s.opn s.wait := by
  unfold okB
  simp only [Bool.and_eq_true, Bool.or_eq_true, decide_eq_true_eq, List.all_eq_true]
  constructor
  · rintro ⟨⟨⟨⟨⟨h1, h2⟩, h3⟩, h4⟩, h5⟩, h6⟩
    refine ⟨s.at_.toNat, by omega, by omega, h6, h3, h4, fun q => ?_⟩
    rcases h5 with h5 | h5
    · omega
    · cases e : s.toks[s.at_.toNat]? with
      | none => rw [e] at h5; cases h5
      | some t =>
        rw [e] at h5
        exact ⟨t, rfl, beq_iff_eq.1 h5⟩
  · rintro ⟨n, e, h⟩
    have hn : s.at_.toNat = n := by omega
    refine ⟨⟨⟨⟨⟨by omega, by have := h.at_; omega⟩, h.wlo⟩, h.whi⟩, ?_⟩, h.opn⟩
    rcases Int.lt_or_le 0 s.wait with q | q
    · obtain ⟨t, ht, hk⟩ := h.wat q
      rw [hn, ht]
      exact .inr (beq_iff_eq.2 hk)
    · exact .inl q
/-- What Next, Close and All answer. -/
def nextS (s : Sx) : Tk × Sx × Int := if okB s = true then (let n := nextL s.toks s.at_.toNat s.opn s.wait; (n.tok, ⟨s.toks, n.at_, n.opn, n.wait⟩, n.err)) else (zeroT, zeroS, 1)
def closeS (s : Sx) : Sx × Bool := if (okB s && (s.wait != 1 && decide (0 < topL s.opn))) = true then (⟨s.toks, s.at_, s.opn.dropLast, s.wait⟩, true) else (zeroS, false)
/-- Sizes that are borne. -/
def Fit9 (s : Sx) : Prop := s.toks.length ≤ 1099511627776 ∧ s.opn.length ≤ 1099511627776
def tkV9 (t : Tk) : Value := .agg #[.int .i64 t.kind, .string t.text, .int .i64 t.line, .int .i64 t.col]
def NextOut (W : World) (s : Sx) (e : Ending) (w' : World) : Prop := ∃ v, e = .returned (.tuple #[tkV9 (nextS s).1, v, .int .i64 (nextS s).2.2]) ∧ StV w' v (nextS s).2.1 ∧ Below W.heap.size W w'
def CloseOut (W : World) (s : Sx) (e : Ending) (w' : World) : Prop := ∃ v, e = .returned (.tuple #[v, .bool (closeS s).2]) ∧ StV w' v (closeS s).1 ∧ Below W.heap.size W w'
def AllOut (W : World) (l : List Tk) (e : Ending) (w' : World) : Prop := ∃ v, e = .returned (.tuple #[v, .int .i64 (allL l).2]) ∧ TkArg w' v (allL l).1 ∧ Below W.heap.size W w'
/-- What the program's three functions do. -/
structure Does9 : Prop where
  next : ∀ (v : Value) (s : Sx) (W : World), StV W v s → Fit9 s → Calls Try.prog 11 #[v] W (NextOut W s)
  close : ∀ (v : Value) (s : Sx) (W : World), StV W v s → Fit9 s → Calls Try.prog 14 #[v] W (CloseOut W s)
  all : ∀ (v : Value) (l : List Tk) (W : World), TkArg W v l → l.length ≤ 3000 → Calls Try.prog 16 #[v] W (AllOut W l)
end Go.Proofs.Ytmcdclhfjjplnaa.Lay
