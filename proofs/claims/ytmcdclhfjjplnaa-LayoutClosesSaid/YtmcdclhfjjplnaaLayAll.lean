/-
  The document's own All. Conditions: at most 3000 tokens.
-/
import Derived.Test.YtmcdclhfjjplnaaLaySam
namespace Go.Proofs.Ytmcdclhfjjplnaa.Lay
open Tks Mrk Go.RowKit
set_option linter.unusedSimpArgs false
set_option linter.unusedVariables false

theorem Lies.put {W : World} {B : Nat} {cs : Array Value} {t : TypeId} {fr : Nat × Nat} (h : Lies W B (.cells cs t fr)) (j : Nat) (u : Value) : Lies (W.setCell ⟨B, j, none⟩ u) B (.cells (cs.setIfInBounds j u) t fr) := by
  unfold Lies at h ⊢
  unfold World.setCell
  rw [Array.getElem?_modify, if_pos rfl, h]
  simp
theorem Lies.beside {W : World} {B B' : Nat} {o : Obj} (h : Lies W B o) (hne : ¬ B = B') (j : Nat) (u : Value) : Lies (W.setCell ⟨B', j, none⟩ u) B o := (Below.heap_setCell _ _ _ B hne).trans h
/-- A slice that holds something lies no lower than n. -/
def Above (n : Nat) (v : Value) : Prop := ∀ (b off m c : Nat), v = .slice (some ⟨b, off, none⟩) m c → m ≠ 0 → n ≤ b
theorem Above.apart {n : Nat} {v : Value} (h : Above (n + 1) v) : Apart n (n + 1) v := fun b off m c e hm => .inr (h b off m c e hm)
/-- A slice that holds something lies no lower than n, or in the block of another one that holds something. -/
def From (n : Nat) (vo vo' : Value) : Prop := ∀ (b off m c : Nat), vo' = .slice (some ⟨b, off, none⟩) m c → m ≠ 0 → n ≤ b ∨ ∃ off2 m2 c2 : Nat, vo = .slice (some ⟨b, off2, none⟩) m2 c2 ∧ m2 ≠ 0
theorem From.same (n : Nat) (vo : Value) : From n vo vo := fun b off m c e hm => .inr ⟨off, m, c, e, hm⟩
theorem From.above {n : Nat} {vo vo' : Value} (h : Above n vo') : From n vo vo' := fun b off m c e hm => .inl (h b off m c e hm)
/-- A slice that holds something does not lie in the row's block. -/
def Sep (vo v : Value) : Prop := ∀ (b off m c : Nat), vo = .slice (some ⟨b, off, none⟩) m c → m ≠ 0 → v.ownBlock ≠ some b
/-- What the document's Next does at a state that may be. -/
def RefNext : Prop := ∀ (vt vo : Value) (s : Sx) (W : World), TkArg W vt s.toks → IntArg W vo s.opn → Fit9 s → ∀ i : Nat, s.at_ = (i : Int) → Ok s.toks i s.opn s.wait →
  Calls Try.prog 12 #[.agg #[vt, .int .i64 s.at_, vo, .int .i64 s.wait]] W fun e w' => ∃ vo',
    e = .returned (.tuple #[.agg #[.int .i64 (nextL s.toks i s.opn s.wait).tok.kind, .string (nextL s.toks i s.opn s.wait).tok.text, .int .i64 (nextL s.toks i s.opn s.wait).tok.line, .int .i64 (nextL s.toks i s.opn s.wait).tok.col], .agg #[vt, .int .i64 ((nextL s.toks i s.opn s.wait).at_ : Int), vo', .int .i64 (nextL s.toks i s.opn s.wait).wait], .int .i64 (nextL s.toks i s.opn s.wait).err]) ∧
    IntArg w' vo' (nextL s.toks i s.opn s.wait).opn ∧ From W.heap.size vo vo' ∧ Below W.heap.size W w'
def leftW (n : Nat) (W : World) (B : Nat) : Nat := match W.cell? ⟨B, 1, none⟩, W.cell? ⟨B, 2, none⟩, W.cell? ⟨B, 3, none⟩ with
  | some (.int _ i), some (.slice _ m _), some (.int _ wt) => 5 * (n - i.toNat) + m + (2 - wt).toNat
  | _, _, _ => 0
theorem leftW_is {l : List Tk} {W : World} {B : Nat} {vt vo : Value} {k : Nat} {o : List Int} {wk : Int} (h : Lies W B (stO vt (k : Int) vo wk)) (ho : IntArg W vo o) : leftW l.length W B = left l k o wk := by
  obtain ⟨a, c, rfl⟩ := ho.len
  unfold leftW left
  rw [h.four.2.1, h.four.2.2.1, h.four.2.2.2.1]
  simp
/-- append of a token that was just laid, beside what else is held. -/
theorem push_at (W : World) {ops : Array Oper} {rest : List Oper} {o : Oper} {a : Act} {Q : Exit → Act → World → Prop} (hg : o.guard = none) (sl x : Operand) (hop : o.op = Op.call { callee := Callee.builtin Builtin.append, args := #[sl, x], argTypes := #[22, 22] })
    (B B1 : Nat) (v vo : Value) (l : List Tk) (xs : List Int) (hs : a.eval sl = v) (hown : Own W B v l) (hlt : ∀ k, v.ownBlock = some k → k < B1) (hB1 : B1 ≤ W.heap.size) (hB : B ≤ W.heap.size) (ho : IntArg W vo xs) (hsep : Sep vo v) (t : Tk) (ty : TypeId) (c : Nat) (hx : a.eval x = .slice (some ⟨W.heap.size, 0, none⟩) 1 c) (b1 : l.length + 1 ≤ 3518437208880)
    (hK : ∀ v' W2, Own W2 B v' (l ++ [t]) → Below B W W2 → (∀ k o, B1 ≤ k → Lies W k o → Lies W2 k o) → IntArg W2 vo xs → Sep vo v' → wpList Try.prog ops Q rest (a.put o.dst v') W2) :
    wpList Try.prog ops Q (o :: rest) a (W.alloc (.cells #[.int .i64 t.kind, .string t.text, .int .i64 t.line, .int .i64 t.col] ty)) := by
  have h0 : Below W.heap.size W (W.alloc (.cells #[.int .i64 t.kind, .string t.text, .int .i64 t.line, .int .i64 t.col] ty)) := (Below.refl _ _).alloc (Nat.le_refl _) _
  have s1 : (W.alloc (.cells #[.int .i64 t.kind, .string t.text, .int .i64 t.line, .int .i64 t.col] ty)).heap.size = W.heap.size + 1 := Array.size_push _
  have h1 : Own (W.alloc (.cells #[.int .i64 t.kind, .string t.text, .int .i64 t.line, .int .i64 t.col] ty)) B v l := hown.below h0 (Nat.le_refl _)
  refine append_one _ hg sl x hop B v l hs h1 ⟨W.heap.size, 0, none⟩ t c hx (fun j u hj => ?_) b1 (by omega) ?_
  · rw [add_plain, new_cell]
    simpa [tkC] using hj
  · intro v' W2 o2 g2 g3
    have hblk : ∀ k, k < W.heap.size → v.ownBlock ≠ some k → W2.heap[k]? = W.heap[k]? := fun k hk hne => (g2.block k (by omega) (fun e => hne e.symm)).trans (h0.block k hk)
    refine hK v' W2 o2 ((h0.mono hB).trans (Below.grown (Below.refl _ _) g2 (by omega) (fun k hk => (World.ownsRow.lt h1 k hk).1))) (fun k ob hk hl => (hblk k hl.lt (fun e => by have := hlt k e; omega)).trans hl) ?_ ?_
    · rcases ho with ho | ⟨b, off, q, e, hlq, hb, hc⟩
      · exact .inl ho
      · by_cases hn : xs.length = 0
        · exact .inl ⟨List.eq_nil_of_length_eq_zero hn, _, _, by rw [e, hn]⟩
        · exact .inr ⟨b, off, q, e, hlq, by have := g2.size; omega, fun i y hy => (World.cell?_of_block (hblk b hb (hsep b off _ q e hn))).trans (hc i y hy)⟩
    · intro b off m q e hm
      have hb : b < W.heap.size := by
        rcases ho with ⟨rfl, a1, c1, e2⟩ | ⟨b2, off2, q2, e2, _, hb, _⟩
        · rw [e] at e2
          cases e2
          exact absurd rfl hm
        · rw [e] at e2
          cases e2
          exact hb
      rcases g3 with g3 | g3
      · rw [g3]
        exact hsep b off m q e hm
      · rw [g3, s1]
        intro q
        cases q
        omega
theorem ok_left {l : List Tk} {k : Nat} {o : List Int} {wk : Int} : o.length ≤ left l k o wk := by unfold left; omega
set_option maxRecDepth 1000000 in
set_option maxHeartbeats 8000000 in
theorem refall_any (RN : RefNext) (v : Value) (l : List Tk) (w : World) (hv : TkArg w v l) (hl : l.length ≤ 3000) :
    Calls Try.prog 17 #[v] w (AllOut w l) := by
  have HV := Lib.hid hv
  have HL := Lib.hid hl
  have HRN := Lib.hid RN
  obtain ⟨p1, q1, rfl⟩ := hv.len
  clear hv hl RN
  unfold AllOut
  go_enter Try.func17, Try.ntmps17
  go_wp2_with fail
  go_loopw [5] (fun ov wr => ∃ (k : Nat) (o : List Int) (wk : Int) (vo : Value) (out : List Tk) (f : Nat), Ok l k o wk ∧ allF l f k o wk out = allL l ∧ left l k o wk < f ∧ out.length + left l k o wk ≤ 5 * l.length + 2 ∧
      Own wr (w.heap.size + 1) ov out ∧ Lies wr w.heap.size (stO (.slice p1 l.length q1) (k : Int) vo wk) ∧ IntArg wr vo o ∧ Above (w.heap.size + 1) vo ∧ Sep vo ov ∧ Below w.heap.size w wr) (fun _ wr => leftW l.length wr w.heap.size)
  case atStart =>
    exact ⟨0, [], 0, .slice none 0 0, [], 5 * l.length + 3, ok_start l, rfl, by have := left_start l; omega, by have := left_start l; simp; omega, Own.nil _ _, Lies.new w _, .inl ⟨rfl, _, _, rfl⟩, fun b off m c e => (by cases e), fun b off m c e => (by cases e), (Below.refl _ _).alloc (Nat.le_refl _) _⟩
  case round =>
    obtain ⟨k, o, wk, vo, out, f, hok, hall, hf, hlen, hown, hst, ho, hab, hsep, hbel⟩ := hrel
    have hm : leftW l.length wr w.heap.size = left l k o wk := leftW_is hst ho
    have C := Lib.hid (HRN.out (.slice p1 l.length q1) vo ⟨l, (k : Int), o, wk⟩ wr (HV.out.below hbel (Nat.le_refl _)) ho ⟨by have := HL.out; dsimp only; omega, by have := HL.out; have := ok_left (l := l) (k := k) (o := o) (wk := wk); dsimp only; omega⟩ k rfl hok)
    have N1 := (next_ok hok).1
    have N2 := next_less hok
    obtain ⟨f, rfl⟩ : ∃ g, f = g + 1 := ⟨f - 1, by omega⟩
    unfold allF at hall
    dsimp only at C
    generalize hn : nextL l k o wk = nx at *
    clear hn
    obtain ⟨⟨nk, nt, nl, nc⟩, na, no, nw, ne⟩ := nx
    dsimp only at C N1 N2 hall
    obtain ⟨p2, q2, rfl⟩ := ho.len
    obtain ⟨c0, c1, c2, c3, f0, f1, f2, f3⟩ := hst.four
    have HOW := Lib.hid hown
    have HST := Lib.hid hst
    have HO := Lib.hid ho
    have HAB := Lib.hid hab
    have HSP := Lib.hid hsep
    have HB := Lib.hid hbel
    have HLE := Lib.hid hlen
    have HF := Lib.hid hf
    have HM := Lib.hid hm
    clear hown hst ho hab hsep hbel hok hlen hf hm
    go_upto_region 4 with (first
      | (go_at_call 12; refine C.out.mono ?_; rintro e w2 ⟨v2, rfl, i2, a2, b2⟩; obtain ⟨p5, q5, rfl⟩ := i2.len; have I2 := Lib.hid i2; have A2 := Lib.hid a2; have B2 := Lib.hid b2; clear i2 a2 b2))
    clear c0 c1 c2 c3 f0 f1 f2 f3
    refine world_new (fun Y => Lies Y w2.heap.size (tkO ⟨nk, nt, nl, nc⟩) ∧ Lies Y (w2.heap.size + 1) (stO (.slice p1 l.length q1) (na : Int) (.slice p5 no.length q5) nw) ∧ Below w2.heap.size w2 Y) ⟨(two_lie w2 _ _).1, (two_lie w2 _ _).2, below_two w2 _ _⟩ ?_
    rintro Y ⟨ly1, ly2, bY⟩
    have s2 : wr.heap.size ≤ w2.heap.size := B2.out.size
    have bY2 : Below wr.heap.size wr Y := afterL B2.out bY
    have hst := HST.out
    have s0 : w.heap.size < wr.heap.size := hst.lt
    have LY1 := Lib.hid ly1
    have LY2 := Lib.hid ly2
    have LS := Lib.hid (hst.below bY2 hst.lt)
    have OY := Lib.hid (HOW.out.below bY2 (Nat.le_refl _))
    have IY := Lib.hid (I2.out.below bY (Nat.le_refl _))
    have BY := Lib.hid (afterL HB.out bY2)
    have SY := Lib.hid bY2.size
    have S0 := Lib.hid s0
    have S2 := Lib.hid s2
    have OL : Hid (∀ k, u5.ownBlock = some k → k < wr.heap.size) := fun k hk => (World.ownsRow.lt HOW.out k hk).2
    have SP : Hid (Sep (.slice p5 no.length q5) u5) := by
      intro b off m c e hm q
      rcases A2.out b off m c e hm with h | ⟨off2, m2, c2, e2, hm2⟩
      · have := OL.out b q
        omega
      · exact HSP.out b off2 m2 c2 e2 hm2 q
    have AB : Hid (Above (w.heap.size + 1) (.slice p5 no.length q5)) := by
      intro b off m c e hm
      rcases A2.out b off m c e hm with h | ⟨off2, m2, c2, e2, hm2⟩
      · omega
      · exact HAB.out b off2 m2 c2 e2 hm2
    obtain ⟨d0, d1, d2, d3, -⟩ := lies_tok ly1
    dsimp only at d0 d1 d2 d3
    clear ly1 ly2 bY bY2 hst HST HOW I2 HSP HAB A2 HO s0 s2
    generalize w2.heap.size = B6 at *
    by_cases hne : ne = 0
    · subst hne
      rw [if_neg (by decide)] at hall
      by_cases hk : nk = 21
      · subst hk
        rw [if_pos rfl] at hall
        have HALL := Lib.hid hall
        clear hall N1 N2
        go_wp2_with fail
        refine bodyPost_ret (by simp [results, Try.results17, go_sem]; try rfl) rfl ?_
        rw [← HALL.out]
        exact ⟨_, rfl, Own.arg OY.out, BY.out⟩
      · rw [if_neg hk] at hall
        have HALL := Lib.hid hall
        have HN1 := Lib.hid N1
        have HN2 := Lib.hid (N2 rfl hk)
        have x1 : (nk == 21) = false := beq_eq_false_iff_ne.2 hk
        clear hall N1 N2 hk
        go_wp2_with (first
          | (at_builtin; refine push_at Y rfl _ _ rfl (w.heap.size + 1) wr.heap.size u5 (.slice p5 no.length q5) out no rfl OY.out OL.out SY.out (by have := SY.out; have := S0.out; omega) IY.out SP.out ⟨nk, nt, nl, nc⟩ _ _ rfl (by have := HLE.out; have := HL.out; omega) ?_; intro v3 w3 o3 b3 l3 i3 s3; have O3 := Lib.hid o3; have B3 := Lib.hid b3; have L3 := Lib.hid (l3 _ _ (by have := S2.out; omega) LY2.out); have I3 := Lib.hid i3; have SP3 := Lib.hid s3; have LS3 := Lib.hid (LS.out.below b3 (Nat.lt_succ_self _)); clear o3 b3 l3 i3 s3; obtain ⟨c0, c1, c2, c3, -⟩ := LS3.out.four; obtain ⟨e0, e1, e2, e3, -⟩ := L3.out.four; obtain ⟨-, -, -, -, f0, f1, f2, f3⟩ := LS3.out.four))
        have LF : Lies (set4 w3 w.heap.size (.slice p1 l.length q1) (.int .i64 (na : Int)) (.slice p5 no.length q5) (.int .i64 nw)) w.heap.size (stO (.slice p1 l.length q1) (na : Int) (.slice p5 no.length q5) nw) := Lies.put (Lies.put (Lies.put (Lies.put LS3.out 0 _) 1 _) 2 _) 3 _
        have IF : IntArg (set4 w3 w.heap.size (.slice p1 l.length q1) (.int .i64 (na : Int)) (.slice p5 no.length q5) (.int .i64 nw)) (.slice p5 no.length q5) no := IntArg.set4 I3.out (Above.apart AB.out) (Nat.le_refl _) (Nat.lt_succ_self _) _ _ _ _
        have h3 := O3.out
        unfold Own at h3
        have OF : Own (set4 w3 w.heap.size (.slice p1 l.length q1) (.int .i64 (na : Int)) (.slice p5 no.length q5) (.int .i64 nw)) (w.heap.size + 1) v3 (out ++ [⟨nk, nt, nl, nc⟩]) :=
          ownsRow_setCell_below (ownsRow_setCell_below (ownsRow_setCell_below (ownsRow_setCell_below h3 (by dsimp only; omega) _) (by dsimp only; omega) _) (by dsimp only; omega) _) (by dsimp only; omega) _
        have BF : Below w.heap.size w (set4 w3 w.heap.size (.slice p1 l.length q1) (.int .i64 (na : Int)) (.slice p5 no.length q5) (.int .i64 nw)) := set4_below (BY.out.trans (B3.out.mono (Nat.le_succ _))) (Nat.le_refl _) _ _ _ _
        have ML := leftW_is (l := l) LF IF
        have m1 := HM.out
        have m2 := HN2.out
        have m3 := HF.out
        have m4 := HLE.out
        exact ⟨⟨na, no, nw, .slice p5 no.length q5, out ++ [(⟨nk, nt, nl, nc⟩ : Tk)], f, HN1.out, HALL.out, by omega, by rw [List.length_append, List.length_singleton]; omega, OF, LF, IF, AB.out, SP3.out, BF⟩, by rw [m1]; exact Nat.lt_of_le_of_lt (Nat.le_of_eq ML) m2⟩
    · rw [if_pos hne] at hall
      have HALL := Lib.hid hall
      have x1 : (ne != 0) = true := bne_iff_ne.2 hne
      clear hall N1 N2 hne
      go_wp2_with fail
      refine bodyPost_ret (by simp [results, Try.results17, go_sem]; try rfl) rfl ?_
      rw [← HALL.out]
      exact ⟨_, rfl, .inl ⟨rfl, _, _, rfl⟩, BY.out⟩
end Go.Proofs.Ytmcdclhfjjplnaa.Lay
