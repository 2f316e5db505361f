/-
  The document's own Next at a state that may not be. Conditions: at most 2^40 tokens and blocks.
-/
import Derived.Test.YtmgclgojmckfhaaZRg
namespace Go.Proofs.Ytmgclgojmckfhaa.Lay
open Tks Mrk Go.RowKit
set_option linter.unusedSimpArgs false
set_option linter.unusedVariables false

theorem lie3 (w : World) (o1 o2 o3 : Obj) : Lies (((w.alloc o1).alloc o2).alloc o3) w.heap.size o1 ∧ Lies (((w.alloc o1).alloc o2).alloc o3) (w.heap.size + 1) o2 ∧ Lies (((w.alloc o1).alloc o2).alloc o3) (w.heap.size + 1 + 1) o3 := by
  refine ⟨(two_lie w o1 o2).1.alloc o3, (two_lie w o1 o2).2.alloc o3, ?_⟩
  have := Lies.new ((w.alloc o1).alloc o2) o3
  rwa [World.size_alloc, World.size_alloc] at this
theorem below3 (w : World) (o1 o2 o3 : Obj) : Below w.heap.size w (((w.alloc o1).alloc o2).alloc o3) := (below_two w o1 o2).alloc (below_two w o1 o2).size o3
theorem lies_tok {W : World} {B : Nat} {t : Tk} (h : Lies W B (tkO t)) :
    W.cell? ⟨B, 0, none⟩ = some (.int .i64 t.kind) ∧ W.cell? ⟨B, 1, none⟩ = some (.string t.text) ∧ W.cell? ⟨B, 2, none⟩ = some (.int .i64 t.line) ∧ W.cell? ⟨B, 3, none⟩ = some (.int .i64 t.col) ∧ W.frozen? ⟨B, 0, none⟩ = false ∧ W.frozen? ⟨B, 1, none⟩ = false ∧ W.frozen? ⟨B, 2, none⟩ = false ∧ W.frozen? ⟨B, 3, none⟩ = false :=
  ⟨(Lies.cell h 0).trans rfl, (Lies.cell h 1).trans rfl, (Lies.cell h 2).trans rfl, (Lies.cell h 3).trans rfl, Lies.free h 0, Lies.free h 1, Lies.free h 2, Lies.free h 3⟩
set_option maxRecDepth 1000000 in
set_option maxHeartbeats 4000000 in
theorem refnext_not (v : Value) (s : Sx) (w : World) (hv : StV w v s) (hf : Fit9 s) (hk : okB s = false) :
    Calls Try.prog 59 #[v] w (NextOut w s) := by
  have C1 : Hid (∀ W, Below w.heap.size w W → Calls Try.prog 68 #[v] W fun e w' => e = .returned (.bool false) ∧ Below W.heap.size W w') := fun W h => by
    have := refright_any v s W (hv.below h (Nat.le_refl _)) hf
    rw [hk] at this
    exact this
  have B0 : Hid (∀ o1 o2 o3 : Obj, Below w.heap.size w (((w.alloc o1).alloc o2).alloc o3)) := fun o1 o2 o3 => below3 w o1 o2 o3
  unfold NextOut nextS
  rw [if_neg (by rw [hk]; decide)]
  obtain ⟨vt, vo, rfl, ht, ho⟩ := hv
  obtain ⟨at1, ct1, rfl⟩ := ht.len
  obtain ⟨ao1, co1, rfl⟩ := ho.len
  clear ht ho hf hk
  go_enter Try.func59, Try.ntmps59
  go_wp2_with (first
    | (go_at_call 68; refine (C1.out _ (B0.out _ _ _)).mono ?_; rintro e w1 ⟨rfl, b1⟩; have L1 := Lib.hid ((lie3 w _ _ _).1.below b1 (by simp only [World.size_alloc]; omega)); have L2 : Hid (Lies w1 (w.heap.size + 1) (tkO zeroT)) := (lie3 w _ _ _).2.1.below b1 (by simp only [World.size_alloc]; omega); have L3 := Lib.hid ((lie3 w _ _ _).2.2.below b1 (by simp only [World.size_alloc]; omega)); have B1 := Lib.hid (afterL (B0.out _ _ _) b1); clear b1; obtain ⟨c0, c1, c2, c3, f0, f1, f2, f3⟩ := lies_tok L2.out; obtain ⟨k0, k1, k2, k3, j0, j1, j2, j3⟩ := L3.out.four))
  refine bodyPost_ret (by simp [results, Try.results59, go_sem, c0, c1, c2, c3, k0, k1, k2, k3]; try rfl) rfl ?_
  exact ⟨_, rfl, StV.zero _, set4_below (set4_below B1.out (by omega) _ _ _ _) (by omega) _ _ _ _⟩
end Go.Proofs.Ytmgclgojmckfhaa.Lay
/-
  The document's own SameState at two values that hold the same state. Conditions: at most 2^40 tokens and blocks.
-/
namespace Go.Proofs.Ytmgclgojmckfhaa.Lay
open Tks Mrk Go.RowKit
set_option linter.unusedSimpArgs false
set_option linter.unusedVariables false

theorem world_new {c : Code} {Q : Exit → Act → World → Prop} {a : Act} {W : World} (P : World → Prop) (h : P W) (k : ∀ X, P X → c.wp Try.prog Q a X) : c.wp Try.prog Q a W := k _ h
set_option maxRecDepth 1000000 in
set_option maxHeartbeats 4000000 in
theorem samestate_any (va vb : Value) (s : Sx) (w : World) (ha : StV w va s) (hb : StV w vb s) (hf : Fit9 s) :
    Calls Try.prog 25 #[va, vb] w fun e w' => e = .returned (.bool true) ∧ Below w.heap.size w w' := by
  obtain ⟨toks, i, o, wt⟩ := s
  obtain ⟨ta, oa, rfl, hta, hoa⟩ := ha
  obtain ⟨tb, ob, rfl, htb, hob⟩ := hb
  obtain ⟨hf1, hf2⟩ := hf
  dsimp only at hta hoa htb hob hf1 hf2 ⊢
  obtain ⟨p1, q1, rfl⟩ := hta.len
  obtain ⟨p2, q2, rfl⟩ := hoa.len
  obtain ⟨p3, q3, rfl⟩ := htb.len
  obtain ⟨p4, q4, rfl⟩ := hob.len
  have HTA := Lib.hid hta
  have HTB := Lib.hid htb
  have HOA := Lib.hid hoa
  have HOB := Lib.hid hob
  have HF1 := Lib.hid hf1
  have HF2 := Lib.hid hf2
  clear hta htb hoa hob hf1 hf2
  go_enter Try.func25, Try.ntmps25
  go_upto_region 1 with fail
  refine world_new (fun X => Lies X w.heap.size (stO (.slice p1 toks.length q1) i (.slice p2 o.length q2) wt) ∧ Lies X (w.heap.size + 1) (stO (.slice p3 toks.length q3) i (.slice p4 o.length q4) wt) ∧ Below w.heap.size w X) ⟨(two_lie w _ _).1, (two_lie w _ _).2, below_two w _ _⟩ ?_
  rintro X ⟨l1, l2, bX⟩
  obtain ⟨c0, c1, c2, c3, -⟩ := l1.four
  obtain ⟨d0, d1, d2, d3, -⟩ := l2.four
  have TA := Lib.hid (HTA.out.below bX (Nat.le_refl _))
  have TB := Lib.hid (HTB.out.below bX (Nat.le_refl _))
  have OA := Lib.hid (HOA.out.below bX (Nat.le_refl _))
  have OB := Lib.hid (HOB.out.below bX (Nat.le_refl _))
  have BX := Lib.hid bX
  generalize w.heap.size + 1 = B2 at *
  clear l1 l2 bX HTA HTB HOA HOB
  go_wp2_with fail
  go_loopw [5] (fun iv wr => ∃ (k n : Nat), iv = .int .i64 (k : Int) ∧ wr = X.drewN n ∧ k ≤ toks.length) (fun iv _ => toks.length - (intOf iv).toNat)
  case atStart => exact ⟨0, 0, rfl, rfl, by omega⟩
  case round =>
    obtain ⟨k, n, rfl, rfl, hk⟩ := hrel
    by_cases hp : k < toks.length
    · obtain ⟨t, ht⟩ : ∃ t, toks[k]? = some t := ⟨_, List.getElem?_eq_getElem hp⟩
      obtain ⟨ga, fa, ca, e1, ha1, ha2⟩ := TA.out.cells (by omega)
      obtain ⟨gb, fb, cb, e2, hb1, hb2⟩ := TB.out.cells (by omega)
      simp only [Value.slice.injEq] at e1 e2
      obtain ⟨rfl, -, rfl⟩ := e1
      obtain ⟨rfl, -, rfl⟩ := e2
      have HA : TkIn X ga fa toks := ⟨ha1, ha2⟩
      have HB : TkIn X gb fb toks := ⟨hb1, hb2⟩
      obtain ⟨a0, a1, a2, a3⟩ := HA.four k t ht
      obtain ⟨b0, b1, b2, b3⟩ := HB.four k t ht
      have hw := idx_at k toks.length hp (Nat.le_trans HF1.out (by decide))
      have HW := Lib.hid hw
      clear ht hw HA HB ha1 ha2 hb1 hb2
      have i0 : (0 : Int) ≤ (k : Int) := by omega
      have i1 : (k : Int) < (toks.length : Int) := by omega
      go_wp2_with fail
      go_quiet (fail)
      go_wp2_with fail
      go_roundw
      case rel =>
        rw [HW.out]
        exact ⟨k + 1, _, by go_num, rfl, by omega⟩
      case measure =>
        rw [HW.out]
        simp [intOf]
        omega
    · have lt1 : decide ((k : Int) < (toks.length : Int)) = false := decide_eq_false (by omega)
      have lt2 : decide (k < toks.length) = false := decide_eq_false hp
      go_wp2_with fail
      go_loopw [6] (fun iv wr => ∃ (j m : Nat), iv = .int .i64 (j : Int) ∧ wr = X.drewN m ∧ j ≤ o.length) (fun iv _ => o.length - (intOf iv).toNat)
      case atStart => exact ⟨0, n, rfl, rfl, by omega⟩
      case round =>
        obtain ⟨j, m, rfl, rfl, hj⟩ := hrel
        by_cases hq : j < o.length
        · obtain ⟨x, hx⟩ : ∃ x, o[j]? = some x := ⟨_, List.getElem?_eq_getElem hq⟩
          obtain ⟨ga, fa, ca, e1, -, ha1, ha2⟩ := OA.out.cells (by omega)
          obtain ⟨gb, fb, cb, e2, -, hb1, hb2⟩ := OB.out.cells (by omega)
          simp only [Value.slice.injEq] at e1 e2
          obtain ⟨rfl, -, rfl⟩ := e1
          obtain ⟨rfl, -, rfl⟩ := e2
          have a0 := ha2 j x hx
          have b0 := hb2 j x hx
          have hw := idx_at j o.length hq (Nat.le_trans HF2.out (by decide))
          have HW := Lib.hid hw
          clear hx hw ha1 ha2 hb1 hb2
          have i0 : (0 : Int) ≤ (j : Int) := by omega
          have i1 : (j : Int) < (o.length : Int) := by omega
          go_wp2_with fail
          go_quiet (fail)
          go_wp2_with fail
          go_roundw
          case rel =>
            rw [HW.out]
            exact ⟨j + 1, _, by go_num, rfl, by omega⟩
          case measure =>
            rw [HW.out]
            simp [intOf]
            omega
        · have lt3 : decide ((j : Int) < (o.length : Int)) = false := decide_eq_false (by omega)
          have lt4 : decide (j < o.length) = false := decide_eq_false hq
          go_wp2_with fail
          go_ret
          exact ⟨rfl, below_drewN BX.out m⟩
end Go.Proofs.Ytmgclgojmckfhaa.Lay
/-
  The document's own All. Conditions: at most 3000 tokens.
-/
namespace Go.Proofs.Ytmgclgojmckfhaa.Lay
open Tks Mrk Go.RowKit
set_option linter.unusedSimpArgs false
set_option linter.unusedVariables false

theorem Lies.put {W : World} {B : Nat} {cs : Array Value} {t : TypeId} {fr : Nat × Nat} (h : Lies W B (.cells cs t fr)) (j : Nat) (u : Value) : Lies (W.setCell ⟨B, j, none⟩ u) B (.cells (cs.setIfInBounds j u) t fr) := by
  unfold Lies at h ⊢
  unfold World.setCell
  rw [Array.getElem?_modify, if_pos rfl, h]
  simp
theorem Lies.beside {W : World} {B B' : Nat} {o : Obj} (h : Lies W B o) (hne : ¬ B = B') (j : Nat) (u : Value) : Lies (W.setCell ⟨B', j, none⟩ u) B o := (Below.heap_setCell _ _ _ B hne).trans h
/-- A slice that holds something lies no lower than n. -/
def Above (n : Nat) (v : Value) : Prop := ∀ (b off m c : Nat), v = .slice (some ⟨b, off, none⟩) m c → m ≠ 0 → n ≤ b
theorem Above.apart {n : Nat} {v : Value} (h : Above (n + 1) v) : Apart n (n + 1) v := fun b off m c e hm => .inr (h b off m c e hm)
/-- A slice that holds something lies no lower than n, or in the block of another one that holds something. -/
def From (n : Nat) (vo vo' : Value) : Prop := ∀ (b off m c : Nat), vo' = .slice (some ⟨b, off, none⟩) m c → m ≠ 0 → n ≤ b ∨ ∃ off2 m2 c2 : Nat, vo = .slice (some ⟨b, off2, none⟩) m2 c2 ∧ m2 ≠ 0
theorem From.same (n : Nat) (vo : Value) : From n vo vo := fun b off m c e hm => .inr ⟨off, m, c, e, hm⟩
theorem From.above {n : Nat} {vo vo' : Value} (h : Above n vo') : From n vo vo' := fun b off m c e hm => .inl (h b off m c e hm)
/-- A slice that holds something does not lie in the row's block. -/
def Sep (vo v : Value) : Prop := ∀ (b off m c : Nat), vo = .slice (some ⟨b, off, none⟩) m c → m ≠ 0 → v.ownBlock ≠ some b
/-- What the document's Next does at a state that may be. -/
def RefNext : Prop := ∀ (vt vo : Value) (s : Sx) (W : World), TkArg W vt s.toks → IntArg W vo s.opn → Fit9 s → ∀ i : Nat, s.at_ = (i : Int) → Ok s.toks i s.opn s.wait →
  Calls Try.prog 59 #[.agg #[vt, .int .i64 s.at_, vo, .int .i64 s.wait]] W fun e w' => ∃ vo',
    e = .returned (.tuple #[.agg #[.int .i64 (nextL s.toks i s.opn s.wait).tok.kind, .string (nextL s.toks i s.opn s.wait).tok.text, .int .i64 (nextL s.toks i s.opn s.wait).tok.line, .int .i64 (nextL s.toks i s.opn s.wait).tok.col], .agg #[vt, .int .i64 ((nextL s.toks i s.opn s.wait).at_ : Int), vo', .int .i64 (nextL s.toks i s.opn s.wait).wait], .int .i64 (nextL s.toks i s.opn s.wait).err]) ∧
    IntArg w' vo' (nextL s.toks i s.opn s.wait).opn ∧ From W.heap.size vo vo' ∧ Below W.heap.size W w'
def leftW (n : Nat) (W : World) (B : Nat) : Nat := match W.cell? ⟨B, 1, none⟩, W.cell? ⟨B, 2, none⟩, W.cell? ⟨B, 3, none⟩ with
  | some (.int _ i), some (.slice _ m _), some (.int _ wt) => 5 * (n - i.toNat) + m + (2 - wt).toNat
  | _, _, _ => 0
theorem leftW_is {l : List Tk} {W : World} {B : Nat} {vt vo : Value} {k : Nat} {o : List Int} {wk : Int} (h : Lies W B (stO vt (k : Int) vo wk)) (ho : IntArg W vo o) : leftW l.length W B = left l k o wk := by
  obtain ⟨a, c, rfl⟩ := ho.len
  unfold leftW left
  rw [h.four.2.1, h.four.2.2.1, h.four.2.2.2.1]
  simp
/-- append of a token that was just laid, beside what else is held. -/
theorem push_at (W : World) {ops : Array Oper} {rest : List Oper} {o : Oper} {a : Act} {Q : Exit → Act → World → Prop} (hg : o.guard = none) (sl x : Operand) (hop : o.op = Op.call { callee := Callee.builtin Builtin.append, args := #[sl, x], argTypes := #[22, 22] })
    (B B1 : Nat) (v vo : Value) (l : List Tk) (xs : List Int) (hs : a.eval sl = v) (hown : Own W B v l) (hlt : ∀ k, v.ownBlock = some k → k < B1) (hB1 : B1 ≤ W.heap.size) (hB : B ≤ W.heap.size) (ho : IntArg W vo xs) (hsep : Sep vo v) (t : Tk) (ty : TypeId) (c : Nat) (hx : a.eval x = .slice (some ⟨W.heap.size, 0, none⟩) 1 c) (b1 : l.length + 1 ≤ 3518437208880)
    (hK : ∀ v' W2, Own W2 B v' (l ++ [t]) → Below B W W2 → (∀ k o, B1 ≤ k → Lies W k o → Lies W2 k o) → IntArg W2 vo xs → Sep vo v' → wpList Try.prog ops Q rest (a.put o.dst v') W2) :
    wpList Try.prog ops Q (o :: rest) a (W.alloc (.cells #[.int .i64 t.kind, .string t.text, .int .i64 t.line, .int .i64 t.col] ty)) := by
  have h0 : Below W.heap.size W (W.alloc (.cells #[.int .i64 t.kind, .string t.text, .int .i64 t.line, .int .i64 t.col] ty)) := (Below.refl _ _).alloc (Nat.le_refl _) _
  have s1 : (W.alloc (.cells #[.int .i64 t.kind, .string t.text, .int .i64 t.line, .int .i64 t.col] ty)).heap.size = W.heap.size + 1 := Array.size_push _
  have h1 : Own (W.alloc (.cells #[.int .i64 t.kind, .string t.text, .int .i64 t.line, .int .i64 t.col] ty)) B v l := hown.below h0 (Nat.le_refl _)
  refine append_one _ hg sl x hop B v l hs h1 ⟨W.heap.size, 0, none⟩ t c hx (fun j u hj => ?_) b1 (by omega) ?_
  · rw [add_plain, new_cell]
    simpa [tkC] using hj
  · intro v' W2 o2 g2 g3
    have hblk : ∀ k, k < W.heap.size → v.ownBlock ≠ some k → W2.heap[k]? = W.heap[k]? := fun k hk hne => (g2.block k (by omega) (fun e => hne e.symm)).trans (h0.block k hk)
    refine hK v' W2 o2 ((h0.mono hB).trans (Below.grown (Below.refl _ _) g2 (by omega) (fun k hk => (World.ownsRow.lt h1 k hk).1))) (fun k ob hk hl => (hblk k hl.lt (fun e => by have := hlt k e; omega)).trans hl) ?_ ?_
    · rcases ho with ho | ⟨b, off, q, e, hlq, hb, hc⟩
      · exact .inl ho
      · by_cases hn : xs.length = 0
        · exact .inl ⟨List.eq_nil_of_length_eq_zero hn, _, _, by rw [e, hn]⟩
        · exact .inr ⟨b, off, q, e, hlq, by have := g2.size; omega, fun i y hy => (World.cell?_of_block (hblk b hb (hsep b off _ q e hn))).trans (hc i y hy)⟩
    · intro b off m q e hm
      have hb : b < W.heap.size := by
        rcases ho with ⟨rfl, a1, c1, e2⟩ | ⟨b2, off2, q2, e2, _, hb, _⟩
        · rw [e] at e2
          cases e2
          exact absurd rfl hm
        · rw [e] at e2
          cases e2
          exact hb
      rcases g3 with g3 | g3
      · rw [g3]
        exact hsep b off m q e hm
      · rw [g3, s1]
        intro q
        cases q
        omega
theorem ok_left {l : List Tk} {k : Nat} {o : List Int} {wk : Int} : o.length ≤ left l k o wk := by unfold left; omega
end Go.Proofs.Ytmgclgojmckfhaa.Lay
