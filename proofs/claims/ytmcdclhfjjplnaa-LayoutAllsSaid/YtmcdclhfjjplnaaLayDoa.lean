/-
  The program's own layout: All; what Next, Close and All do. Conditions: at most 3000 tokens.
-/
import Derived.Test.YtmcdclhfjjplnaaLayDoe
namespace Go.Proofs.Ytmcdclhfjjplnaa.Lay
open Tks Mrk Go.RowKit
set_option linter.unusedSimpArgs false
set_option linter.unusedVariables false

theorem next_prog (v : Value) (s : Sx) (w : World) (hv : StV w v s) (hf : Fit9 s) : Calls Try.prog 11 #[v] w (NextOut w s) := by
  cases h : okB s with
  | true => exact next_ok9 v s w hv hf h
  | false => exact next_no v s w hv hf h
/-- A row of the call's own where two blocks beside it may change. -/
theorem ownsRow_kp {w w' : World} {base b : Nat} {g : Option Nat} {e : TypeId} {size : Nat} {v : Value} {n : Nat} {xs : List Value} (h : w.ownsRow base e size v n xs) (k : Kp w w' b g) (hb : v.ownBlock ≠ some b) (hg : ∀ q, v.ownBlock = some q → some q ≠ g) : w'.ownsRow base e size v n xs := by
  refine ⟨h.1, h.2.imp id ?_⟩
  rintro ⟨q, cap, cur, rfl, h1, h2, h3⟩
  have hq := lt_of_block h2
  exact ⟨q, cap, cur, rfl, h1, (k.block q hq (fun e => hb (by rw [e]; rfl)) (hg q rfl)).trans h2, h3⟩
/-- append of a token that was just laid, beside a row of open blocks. -/
theorem push_own (W : World) {ops : Array Oper} {rest : List Oper} {o : Oper} {a : Act} {Q : Exit → Act → World → Prop} (hg : o.guard = none) (sl x : Operand) (hop : o.op = Op.call { callee := Callee.builtin Builtin.append, args := #[sl, x], argTypes := #[22, 22] })
    (B b : Nat) (v vo vt : Value) (l : List Tk) (xs : List Int) (i wt : Int) (hs : a.eval sl = v) (hown : Own W B v l) (hB : B ≤ W.heap.size) (hb : b < B) (hl : Lies W b (stO vt i vo wt)) (ho : IntOwn W B vo xs) (hsep : ∀ q, vo.ownBlock = some q → v.ownBlock ≠ some q) (t : Tk) (ty : TypeId) (c : Nat) (hx : a.eval x = .slice (some ⟨W.heap.size, 0, none⟩) 1 c) (b1 : l.length + 1 ≤ 3518437208880)
    (hK : ∀ v' W2, Own W2 B v' (l ++ [t]) → Below B W W2 → Lies W2 b (stO vt i vo wt) → IntOwn W2 B vo xs → (∀ q, vo.ownBlock = some q → v'.ownBlock ≠ some q) → wpList Try.prog ops Q rest (a.put o.dst v') W2) :
    wpList Try.prog ops Q (o :: rest) a (W.alloc (.cells #[.int .i64 t.kind, .string t.text, .int .i64 t.line, .int .i64 t.col] ty)) := by
  have h0 : Below W.heap.size W (W.alloc (.cells #[.int .i64 t.kind, .string t.text, .int .i64 t.line, .int .i64 t.col] ty)) := (Below.refl _ _).alloc (Nat.le_refl _) _
  have s1 : (W.alloc (.cells #[.int .i64 t.kind, .string t.text, .int .i64 t.line, .int .i64 t.col] ty)).heap.size = W.heap.size + 1 := Array.size_push _
  have h1 : Own (W.alloc (.cells #[.int .i64 t.kind, .string t.text, .int .i64 t.line, .int .i64 t.col] ty)) B v l := hown.below h0 (Nat.le_refl _)
  refine append_one _ hg sl x hop B v l hs h1 ⟨W.heap.size, 0, none⟩ t c hx (fun j u hj => ?_) b1 (by omega) ?_
  · rw [add_plain, new_cell]
    simpa [tkC] using hj
  · intro v' W2 o2 g2 g3
    have bel : Below B W W2 := (h0.mono hB).trans (Below.grown (Below.refl _ _) g2 (by omega) (fun k hk => (World.ownsRow.lt h1 k hk).1))
    refine hK v' W2 o2 bel (hl.below bel hb) ?_ ?_
    · refine World.ownsRow.kept (IntOwn.below ho h0 (Nat.le_refl _)) g2 ?_
      rcases hv : vo.ownBlock with _ | q
      · exact .inl rfl
      · exact .inr (fun e => hsep q hv e.symm)
    · intro q hq e
      rcases g3 with g3 | g3
      · rw [g3] at e
        exact hsep q hq e
      · rw [g3, s1] at e
        injection e with e
        have := (World.ownsRow.lt ho q hq).2
        omega
set_option maxRecDepth 1000000 in
set_option maxHeartbeats 16000000 in
theorem all_prog (v : Value) (l : List Tk) (w : World) (hv : TkArg w v l) (hl : l.length ≤ 3000) :
    Calls Try.prog 16 #[v] w (AllOut w l) := by
  have HV := Lib.hid hv
  have HL := Lib.hid hl
  obtain ⟨p1, q1, rfl⟩ := hv.len
  clear hv hl
  unfold AllOut
  go_enter Try.func16, Try.ntmps16
  go_wp2_with fail
  go_loopw [4] (fun ov wr => ∃ (k : Nat) (o : List Int) (wk : Int) (vo : Value) (out : List Tk) (f : Nat), Ok l k o wk ∧ allF l f k o wk out = allL l ∧ left l k o wk < f ∧ out.length + left l k o wk ≤ 5 * l.length + 2 ∧
      Own wr (w.heap.size + 1) ov out ∧ Lies wr w.heap.size (stO (.slice p1 l.length q1) (k : Int) vo wk) ∧ IntOwn wr (w.heap.size + 1) vo o ∧ (∀ q, vo.ownBlock = some q → ov.ownBlock ≠ some q) ∧ Below w.heap.size w wr) (fun _ wr => leftW l.length wr w.heap.size)
  case atStart =>
    exact ⟨0, [], 0, .slice none 0 0, [], 5 * l.length + 3, ok_start l, rfl, by have := left_start l; omega, by have := left_start l; simp; omega, Own.nil _ _, Lies.new w _, IntOwn.nil _ _, fun q e => (by cases e), (Below.refl _ _).alloc (Nat.le_refl _) _⟩
  case round =>
    obtain ⟨k, o, wk, vo, out, f, hok, hall, hf, hlen, hown, hst, ho, hsep, hbel⟩ := hrel
    have hm : leftW l.length wr w.heap.size = left l k o wk := leftW_is hst ho.arg
    have hol : o.length ≤ 1099511627776 := by
      have := HL.out
      have := ok_left (l := l) (k := k) (o := o) (wk := wk)
      omega
    have C := Lib.hid (step_any (.slice p1 l.length q1) vo l k o wk w.heap.size (w.heap.size + 1) vo.ownBlock wr hst ⟨ho.arg, IntOwn.apart ho (Nat.le_refl _), Nat.lt_succ_self _, hst.lt, .inl ⟨ho, rfl⟩⟩ (HV.out.below hbel (Nat.le_refl _)) (TkArg.apart HV.out) hok (by have := HL.out; omega) hol)
    have N1 := (next_ok hok).1
    have N2 := next_less hok
    obtain ⟨f, rfl⟩ : ∃ g, f = g + 1 := ⟨f - 1, by omega⟩
    unfold allF at hall
    unfold tkV9 at C
    generalize hn : nextL l k o wk = nx at *
    clear hn
    obtain ⟨⟨nk, nt, nl, nc⟩, na, no, nw, ne⟩ := nx
    dsimp only at C N1 N2 hall
    have HOW := Lib.hid hown
    have HST := Lib.hid hst
    have HO := Lib.hid ho
    have HSP := Lib.hid hsep
    have HB := Lib.hid hbel
    have HLE := Lib.hid hlen
    have HF := Lib.hid hf
    have HM := Lib.hid hm
    clear hown hst ho hsep hbel hok hlen hf hm hol
    go_upto_region 4 with (first
      | (go_at_call 22; refine C.out.mono ?_; rintro e w2 ⟨rfl, q2⟩; obtain ⟨vo2, l2, _, o2, _, _, k2⟩ := q2; have L2 := Lib.hid l2; have O2 := Lib.hid (o2 HO.out); have K2 := Lib.hid k2; clear l2 o2 k2))
    refine world_new (fun Y => Lies Y w2.heap.size (tkO ⟨nk, nt, nl, nc⟩) ∧ Below w2.heap.size w2 Y) ⟨Lies.new w2 _, (Below.refl _ _).alloc (Nat.le_refl _) _⟩ ?_
    rintro Y ⟨ly1, bY⟩
    have s2 : wr.heap.size ≤ w2.heap.size := K2.out.size
    have s0 : w.heap.size < wr.heap.size := HST.out.lt
    have S0 := Lib.hid s0
    have S2 := Lib.hid s2
    have SY := Lib.hid bY.size
    have LY1 := Lib.hid ly1
    have LS := Lib.hid (L2.out.below bY L2.out.lt)
    have OW2 : Own w2 (w.heap.size + 1) u4 out := ownsRow_kp HOW.out K2.out (fun e => by have := (World.ownsRow.lt HOW.out _ e).1; omega) (fun q hq e => HSP.out q e.symm hq)
    have OY := Lib.hid (OW2.below bY (Nat.le_refl _))
    have IY := Lib.hid (IntOwn.below O2.out.1 bY (Nat.le_refl _))
    have SEP : Hid (∀ q, vo2.ownBlock = some q → u4.ownBlock ≠ some q) := by
      intro q hq e
      rcases O2.out.2 with h | ⟨m, h, h3⟩
      · exact HSP.out q (h ▸ hq) e
      · rw [h] at hq
        injection hq with hq
        have := (World.ownsRow.lt HOW.out q e).2
        omega
    have BY : Hid (Below w.heap.size w Y) := (HB.out.trans (K2.out.below (Nat.le_refl _) (fun q hq => Nat.le_of_lt (World.ownsRow.lt HO.out q hq).1) (Nat.le_of_lt s0))).trans (bY.mono (Nat.le_trans (Nat.le_of_lt s0) s2))
    obtain ⟨d0, d1, d2, d3, -⟩ := lies_tok ly1
    dsimp only at d0 d1 d2 d3
    clear ly1 bY s0 s2 OW2 HOW HST HO HSP HB K2 L2 O2 C
    generalize w2.heap.size = B6 at *
    by_cases hne : ne = 0
    · subst hne
      rw [if_neg (by decide)] at hall
      by_cases hk : nk = 21
      · subst hk
        rw [if_pos rfl] at hall
        have HALL := Lib.hid hall
        clear hall N1 N2
        go_wp2_with fail
        refine bodyPost_ret (by simp [results, Try.results16, go_sem]; try rfl) rfl ?_
        rw [← HALL.out]
        exact ⟨_, rfl, Own.arg OY.out, BY.out⟩
      · rw [if_neg hk] at hall
        have HALL := Lib.hid hall
        have HN1 := Lib.hid N1
        have HN2 := Lib.hid (N2 rfl hk)
        have x1 : (nk == 21) = false := beq_eq_false_iff_ne.2 hk
        clear hall N1 N2 hk
        go_wp2_with (first
          | (at_builtin; refine push_own Y rfl _ _ rfl (w.heap.size + 1) w.heap.size u4 vo2 (.slice p1 l.length q1) out no (na : Int) nw rfl OY.out (by have := S0.out; have := S2.out; have := SY.out; have := LY1.out.lt; omega) (Nat.lt_succ_self _) LS.out IY.out SEP.out ⟨nk, nt, nl, nc⟩ _ _ rfl (by have := HLE.out; have := HL.out; omega) ?_; intro v3 w3 o3 b3 l3 i3 s3; have O3 := Lib.hid o3; have B3 := Lib.hid b3; have L3 := Lib.hid l3; have I3 := Lib.hid i3; have SP3 := Lib.hid s3; clear o3 b3 l3 i3 s3))
        have ML := leftW_is (l := l) L3.out (IntOwn.arg I3.out)
        have m1 := HM.out
        have m2 := HN2.out
        have m3 := HF.out
        have m4 := HLE.out
        exact ⟨⟨na, no, nw, vo2, out ++ [(⟨nk, nt, nl, nc⟩ : Tk)], f, HN1.out, HALL.out, by omega, by rw [List.length_append, List.length_singleton]; omega, O3.out, L3.out, I3.out, SP3.out, BY.out.trans (B3.out.mono (Nat.le_succ _))⟩, by rw [m1]; exact Nat.lt_of_le_of_lt (Nat.le_of_eq ML) m2⟩
    · rw [if_pos hne] at hall
      have HALL := Lib.hid hall
      have x1 : (ne != 0) = true := bne_iff_ne.2 hne
      clear hall N1 N2 hne
      go_wp2_with fail
      refine bodyPost_ret (by simp [results, Try.results16, go_sem]; try rfl) rfl ?_
      rw [← HALL.out]
      exact ⟨_, rfl, .inl ⟨rfl, _, _, rfl⟩, BY.out⟩
theorem does9 : Does9 := ⟨next_prog, close_any, all_prog⟩
end Go.Proofs.Ytmcdclhfjjplnaa.Lay
