/-
  The document's own Mark at any tokens. Conditions: at most 2^38 tokens; how long the lists are that the document's Lines answers of their texts is a hypothesis.
-/
import Derived.Test.YthjckmoobbpidaaMrkRef
import Derived.Deep.CutRange
namespace Go.Proofs.Ythjckmoobbpidaa.Mrk
open Tks Go.RowKit
set_option linter.unusedSimpArgs false
set_option linter.unusedVariables false

/-- Is there a Begin ahead of what follows? -/
def nextB (first op : Bool) : List Tk → Bool
  | [] => op
  | t :: _ => op && (!braceT t && (!first || !moduleT t))
/-- Where the loop is: what it has laid, and whether a block begins next. -/
structure Mid (nl : ByteArray → Int) (l : List Tk) (k : Nat) (acc : List Tk) (b : Bool) : Prop where
  ex : ∃ (op : Bool) (prev : Tk), acc ++ markF nl (decide (k = 0)) op prev (l.drop k) = markL nl l ∧ (k ≠ 0 → l[k - 1]? = some prev) ∧ b = nextB (decide (k = 0)) op (l.drop k)
  len : acc.length ≤ 2 * k
section
variable {nl : ByteArray → Int} {l acc : List Tk} {k : Nat} {b : Bool}
theorem Mid.start (nl : ByteArray → Int) (l : List Tk) : Mid nl l 0 [] (nextB true true l) := ⟨⟨true, lastM, rfl, fun h => absurd rfl h, rfl⟩, Nat.le_refl _⟩
theorem drop_at {l : List Tk} {k : Nat} {t : Tk} (h : l[k]? = some t) : l.drop k = t :: l.drop (k + 1) := by
  obtain ⟨hk, e⟩ := List.getElem?_eq_some_iff.1 h
  rw [List.drop_eq_getElem_cons hk, e]
theorem Mid.go (h : Mid nl l k acc b) {t : Tk} (ht : l[k]? = some t) :
    ∃ prev, (k ≠ 0 → l[k - 1]? = some prev) ∧ Mid nl l (k + 1) (acc ++ (if b = true then [beginM t] else if (decide (k = 0) || freshT nl prev t) = true then [lineM t] else []) ++ [t]) (nextB false (opensT t) (l.drop (k + 1))) := by
  obtain ⟨⟨op, prev, h1, h2, h3⟩, h4⟩ := h
  rw [drop_at ht] at h1 h3
  have h3 : b = (op && (!braceT t && (!decide (k = 0) || !moduleT t))) := h3
  unfold markF ahead at h1
  rw [← h3] at h1
  refine ⟨prev, h2, ⟨opensT t, t, ?_, fun _ => by simpa using ht, by simp⟩, ?_⟩
  · rw [← h1]
    simp
  · rw [List.length_append, List.length_append]
    have : (if b = true then [beginM t] else if (decide (k = 0) || freshT nl prev t) = true then [lineM t] else []).length ≤ 1 := by
      split
      · exact Nat.le_refl _
      · split <;> simp
    simp only [List.length_cons, List.length_nil]
    omega
theorem Mid.fin (h : Mid nl l k acc b) (hk : ¬ k < l.length) : acc ++ (if b = true then [lastM] else []) = markL nl l := by
  obtain ⟨⟨op, prev, h1, h2, h3⟩, h4⟩ := h
  rw [List.drop_eq_nil_of_le (by omega)] at h1 h3
  unfold nextB at h3
  unfold markF at h1
  rw [h3]
  exact h1
end
/-- A token in a block of its own, and a row of the call's own beside it. -/
structure Two (w W : World) (o : Value) (acc : List Tk) (g : Nat) (t : Tk) : Prop where
  own : Own W w.heap.size o acc
  bel : Below w.heap.size w W
  tok : TkIn W g 0 [t]
  ne : ∀ b, o.ownBlock = some b → b ≠ g
theorem Two.cells {w W : World} {o : Value} {acc : List Tk} {g : Nat} {t : Tk} (h : Two w W o acc g t) :
    W.cell? ⟨g, 0, none⟩ = some (.int .i64 t.kind) ∧ W.cell? ⟨g, 1, none⟩ = some (.string t.text) ∧ W.cell? ⟨g, 2, none⟩ = some (.int .i64 t.line) ∧ W.cell? ⟨g, 3, none⟩ = some (.int .i64 t.col) := by
  obtain ⟨a0, a1, a2, a3⟩ := h.tok.four 0 t rfl
  simp only [Nat.zero_mul, Nat.zero_add] at a0 a1 a2 a3
  exact ⟨a0, a1, a2, a3⟩
theorem Two.below {w W W' : World} {o : Value} {acc : List Tk} {g : Nat} {t : Tk} (h : Two w W o acc g t) (hb : Below W.heap.size W W') : Two w W' o acc g t :=
  ⟨h.own.below hb (Nat.le_refl _), h.bel.trans (hb.mono h.bel.size), h.tok.below hb (Nat.le_refl _), h.ne⟩
/-- append of one token that was just laid, beside a token in a block of its own. -/
theorem push_two (w W : World) {ops : Array Oper} {rest : List Oper} {o : Oper} {a : Act} {Q : Exit → Act → World → Prop} (hg : o.guard = none) (sl x : Operand) (hop : o.op = Op.call { callee := Callee.builtin Builtin.append, args := #[sl, x], argTypes := #[26, 26] })
    (v : Value) (l : List Tk) (g : Nat) (u : Tk) (hs : a.eval sl = v) (h : Two w W v l g u) (t : Tk) (ty : TypeId) (c : Nat) (hx : a.eval x = .slice (some ⟨W.heap.size, 0, none⟩) 1 c) (b1 : l.length + 1 ≤ 3518437208880)
    (hK : ∀ v' W2, Two w W2 v' (l ++ [t]) g u → wpList Try.prog ops Q rest (a.put o.dst v') W2) :
    wpList Try.prog ops Q (o :: rest) a (W.alloc (.cells #[.int .i64 t.kind, .string t.text, .int .i64 t.line, .int .i64 t.col] ty)) := by
  have h0 : Below W.heap.size W (W.alloc (.cells #[.int .i64 t.kind, .string t.text, .int .i64 t.line, .int .i64 t.col] ty)) := (Below.refl _ _).alloc (Nat.le_refl _) _
  have s1 : (W.alloc (.cells #[.int .i64 t.kind, .string t.text, .int .i64 t.line, .int .i64 t.col] ty)).heap.size = W.heap.size + 1 := Array.size_push _
  have h1 := h.below h0
  have hl := h.tok.1
  refine append_one _ hg sl x hop w.heap.size v l hs h1.own ⟨W.heap.size, 0, none⟩ t c hx (fun j u hj => ?_) b1 h1.bel.size ?_
  · rw [add_plain, new_cell]
    simpa [tkC] using hj
  · intro v' W2 o2 g2 p2
    refine hK v' W2 ⟨o2, Below.grown h1.bel g2 h1.bel.size (fun k hk => (World.ownsRow.lt h1.own k hk).1), ⟨Nat.lt_of_lt_of_le h1.tok.1 g2.size, fun i x hx k hk => ?_⟩, fun b hb => ?_⟩
    · rw [← h1.tok.2 i x hx k hk]
      exact World.cell?_of_block (g2.block _ h1.tok.1 (fun e => h.ne g e.symm rfl))
    · rcases p2 with e | e
      · rw [e] at hb
        exact h.ne b hb
      · rw [e] at hb
        injection hb with hb
        omega
set_option maxRecDepth 1000000 in
set_option maxHeartbeats 8000000 in
theorem refmark_any (nl : ByteArray → Int) (v : Value) (l : List Tk) (w : World) (hnl : ∀ t ∈ l, LinesLen nl t.text) (ha : TkArg w v l) (hm : l.length ≤ 274877906944) :
    Calls Try.prog 14 #[v] w fun e w' => ∃ r, e = .returned r ∧ Own w' w.heap.size r (markL nl l) ∧ Below w.heap.size w w' := by
  have HM := Lib.hid hm
  have HNL := Lib.hid hnl
  clear hm hnl
  by_cases hL : l.length = 0
  · obtain ⟨a1, c1, rfl⟩ := ha.len
    have hl : l = [] := List.eq_nil_of_length_eq_zero hL
    rw [hL]
    subst hl
    clear ha HM hL HNL
    have HMK : Hid (markL nl [] = [] ++ [lastM]) := rfl
    go_enter Try.func14, Try.ntmps14
    go_wp2_with (first | (at_builtin; refine push_one w _ rfl _ _ rfl _ [] rfl (Own.nil _ _) (Below.refl _ _) lastM _ _ rfl (by decide) ?_; intro v2 W2 o2 b2; have O2 := Lib.hid o2; have B2 := Lib.hid b2; clear o2 b2))
    go_ret
    exact ⟨_, rfl, by rw [HMK.out]; exact O2.out, B2.out⟩
  · obtain ⟨ga, oa, ca, rfl, ha1, ha2⟩ := ha.cells hL
    have HA : Hid (TkIn w ga oa l) := ⟨ha1, ha2⟩
    clear ha ha1 ha2
    obtain ⟨t0, ht0⟩ : ∃ t, l[0]? = some t := ⟨_, List.getElem?_eq_getElem (by omega)⟩
    obtain ⟨a0, a1, a2, a3⟩ := HA.out.four 0 t0 ht0
    simp only [Nat.zero_mul, Nat.add_zero] at a0 a1 a2 a3
    have H0 : Hid (nextB true true l = (!braceT t0 && !moduleT t0)) := by
      unfold Hid
      have := drop_at ht0
      rw [List.drop_zero] at this
      rw [this]
      simp [nextB]
    have hL0 : ((l.length : Int) == 0) = false := by rw [beq_eq_false_iff_ne]; omega
    go_enter Try.func14, Try.ntmps14
    have HT : Hid (tx t0 = t0.text.data.toList ∧ moduleT t0 = (t0.kind == 9 && tx t0 == [109, 111, 100, 117, 108, 101])) := ⟨rfl, rfl⟩
    go_upto_region 4 with fail
    go_cut [4] from 7 (fun bv wx => bv = .bool (nextB true true l) ∧ Below w.heap.size w wx)
    case first =>
      go_wp2_with (first | (go_at_call 21; refine (refbrace_any t0 _).mono ?_; rintro e w1 ⟨rfl, hb1⟩; have HB1 := Lib.hid hb1; clear hb1; have HA1 := Lib.hid (HA.out.below HB1.out (Nat.le_refl _)); obtain ⟨b0, b1, b2, b3⟩ := HA1.out.four 0 t0 ht0; simp only [Nat.zero_mul, Nat.add_zero] at b0 b1 b2 b3))
      all_goals go_meet
      all_goals refine ⟨?_, HB1.out⟩
      all_goals rw [H0.out, HT.out.2, HT.out.1]
      all_goals refine congrArg (fun b : Bool => Value.bool b) ?_
      all_goals (try simp only [Lib.toList_data] at *)
      all_goals (first | (simp [*]; done) | simp_all)
    case rest =>
      obtain ⟨rfl, hbc⟩ := hcut
      have HBC := Lib.hid hbc
      clear hbc a0 a1 a2 a3 ht0 H0 HT hL0
      go_wp2_with fail
      go_loopw [3, 4, 5, 6] (fun o b i q wr => ∃ (k : Nat) (acc : List Tk) (bb : Bool), i = .int .i64 (k : Int) ∧ k ≤ l.length ∧ b = .bool bb ∧ Own wr w.heap.size o acc ∧ Below w.heap.size w wr ∧ Mid nl l k acc bb) (fun _ _ i _ _ => l.length - (intOf i).toNat)
      case atStart => exact ⟨0, [], _, rfl, by omega, rfl, Own.nil _ _, HBC.out, Mid.start nl l⟩
      case round =>
        obtain ⟨k, acc, bb, rfl, hk, rfl, ho, hb, hmid⟩ := hrel
        have HO := Lib.hid ho
        have HB := Lib.hid hb
        have HMID := Lib.hid hmid
        clear ho hb hmid HBC
        have HLEN := Lib.hid HMID.out.len
        by_cases hp : k < l.length
        · obtain ⟨t, ht⟩ : ∃ t, l[k]? = some t := ⟨_, List.getElem?_eq_getElem hp⟩
          have HI := Lib.hid (HA.out.below HB.out (Nat.le_refl _))
          obtain ⟨a0, a1, a2, a3⟩ := HI.out.four k t ht
          have HW := Lib.hid (idx_at k l.length hp (Nat.le_trans HM.out (by decide)))
          have HTT := Lib.hid ht
          clear ht
          have h2 : Two w (wr.alloc (tkO t)) u3 acc wr.heap.size t := by
            have hb0 : Below wr.heap.size wr (wr.alloc (tkO t)) := (Below.refl _ _).alloc (Nat.le_refl _) _
            have s1 : (wr.alloc (tkO t)).heap.size = wr.heap.size + 1 := Array.size_push _
            refine ⟨HO.out.below hb0 (Nat.le_refl _), HB.out.trans (hb0.mono HB.out.size), ⟨by omega, fun i x hx j hj => ?_⟩, fun b hb e => ?_⟩
            · have hi : i = 0 := by
                have := (List.getElem?_eq_some_iff.1 hx).1
                simp at this
                omega
              subst hi
              obtain rfl : t = x := by simpa using hx
              rw [Nat.zero_mul, Nat.zero_add]
              exact (new_cell wr _ _ j).trans (by simp [tkC])
            · have := (World.ownsRow.lt HO.out b hb).2
              omega
          obtain ⟨prev, hpv, hgo⟩ := HMID.out.go HTT.out
          have H2 := Lib.hid h2
          have HPV := Lib.hid hpv
          obtain ⟨M, hM⟩ : ∃ M, (if bb = true then [beginM t] else if (decide (k = 0) || freshT nl prev t) = true then [lineM t] else []) = M := ⟨_, rfl⟩
          rw [hM] at hgo
          have HGO := Lib.hid hgo
          have HME := Lib.hid hM
          clear h2 hpv hgo hM
          go_upto_if 43 with fail
          go_cut [3] from 44 to 92 (fun ov wx => Two w wx ov (acc ++ M) wr.heap.size t)
          case first =>
            obtain ⟨W1, hW1⟩ : ∃ W1, wr.alloc (.cells #[.int .i64 t.kind, .string t.text, .int .i64 t.line, .int .i64 t.col] 23) = W1 := ⟨_, rfl⟩
            unfold tkO at H2
            rw [hW1] at H2 ⊢
            clear hW1 a0 a1 a2 a3
            obtain ⟨c0, c1, c2, c3⟩ := H2.out.cells
            cases bb with
            | true =>
              have HE : Hid (M = [beginM t]) := HME.out.symm.trans (if_pos rfl)
              go_wp2_with (first | (at_builtin; refine push_two w W1 rfl _ _ rfl _ _ wr.heap.size t rfl (by exact H2.out) (beginM t) _ _ rfl (by have := HLEN.out; have := HM.out; omega) ?_; intro v2 W2 h3; have H3 := Lib.hid h3; clear h3))
              go_meet
              case rel => rw [HE.out]; exact H3.out
            | false =>
              by_cases hk0 : k = 0
              · have x0 : ((k : Int) == 0) = true := by rw [beq_iff_eq]; omega
                have HE : Hid (M = [lineM t]) := by
                  unfold Hid
                  rw [← HME.out, if_neg (by decide), decide_eq_true hk0, Bool.true_or, if_pos rfl]
                clear hk0
                go_wp2_with fail
                go_quiet (fail)
                go_wp2_with (first | (at_builtin; refine push_two w _ rfl _ _ rfl _ _ wr.heap.size t rfl (H2.out.below (below_drewN (Below.refl _ _) _)) (lineM t) _ _ rfl (by have := HLEN.out; have := HM.out; omega) ?_; intro v2 W2 h3; have H3 := Lib.hid h3; clear h3))
                go_meet
                case rel => rw [HE.out]; exact H3.out
              · obtain ⟨j, rfl⟩ : ∃ j, k = j + 1 := ⟨k - 1, by omega⟩
                have hp1 : l[j]? = some prev := HPV.out hk0
                have HL1 := Lib.hid (HA.out.below H2.out.bel (Nat.le_refl _))
                obtain ⟨p0, p1, p2, p3⟩ := HL1.out.four j prev hp1
                have x0 : (((j + 1 : Nat) : Int) == 0) = false := by rw [beq_eq_false_iff_ne]; omega
                have hw : wrap64 (((j + 1 : Nat) : Int) - 1) = (j : Int) := by
                  have h1 := HM.out
                  have h2 : (((j + 1 : Nat) : Int) - 1) = (j : Int) := by omega
                  rw [h2]
                  exact IntWalk.wrap64_in _ ⟨by omega, by omega⟩
                have hw1 : IntKind.i64.wrap (((j + 1 : Nat) : Int) - 1) = (j : Int) := by rw [IntWalk.i64_left]; exact hw
                have hw2 : wrap64 (j : Int) = (j : Int) := by
                  have h1 := HM.out
                  exact IntWalk.wrap64_in _ ⟨by omega, by omega⟩
                have hw3 : IntKind.i64.wrap (j : Int) = (j : Int) := by rw [IntWalk.i64_left]; exact hw2
                have i0 : (0 : Int) ≤ (j : Int) := by omega
                have i1 : (j : Int) < (l.length : Int) := by omega
                have i2 : (j : Int) ≤ (l.length : Int) := by omega
                have HF := Lib.hid (fun W => reffresh_any nl prev t (HNL.out prev (List.mem_of_getElem? hp1)) W)
                have HE : Hid (M = if freshT nl prev t = true then [lineM t] else []) := by
                  unfold Hid
                  rw [← HME.out, if_neg (by decide), decide_eq_false hk0, Bool.false_or]
                have HP1 := Lib.hid hp1
                clear hk0 hp1
                clear HME
                generalize freshT nl prev t = fr at HF HE
                cases fr with
                | true =>
                  go_wp2_with fail
                  go_region_held3 (fun w' => w'.cell? ⟨ga, oa + j * 4, none⟩ = some (.int .i64 prev.kind) ∧ w'.cell? ⟨ga, oa + j * 4 + 1, none⟩ = some (.string prev.text) ∧ w'.cell? ⟨ga, oa + j * 4 + 2, none⟩ = some (.int .i64 prev.line) ∧ w'.cell? ⟨ga, oa + j * 4 + 3, none⟩ = some (.int .i64 prev.col) ∧ w'.cell? ⟨wr.heap.size, 0, none⟩ = some (.int .i64 t.kind) ∧ w'.cell? ⟨wr.heap.size, 1, none⟩ = some (.string t.text) ∧ w'.cell? ⟨wr.heap.size, 2, none⟩ = some (.int .i64 t.line) ∧ w'.cell? ⟨wr.heap.size, 3, none⟩ = some (.int .i64 t.col)) (go_keep) (first
                    | (go_at_call 22; refine (HF.out _).mono ?_; rintro e w2 ⟨rfl, hb2⟩; have HB2 := Lib.hid (undrew (n := 1) hb2); have H4 := Lib.hid (H2.out.below HB2.out); have HL2 := Lib.hid (HL1.out.below HB2.out (Nat.le_refl _)); obtain ⟨d0, d1, d2, d3⟩ := H4.out.cells; obtain ⟨q0, q1, q2, q3⟩ := HL2.out.four j prev HP1.out; clear hb2))
                  all_goals go_wp2_with (first | (at_builtin; refine push_two w _ rfl _ _ rfl _ _ wr.heap.size t rfl (by exact H4.out) (lineM t) _ _ rfl (by have := HLEN.out; have := HM.out; omega) ?_; intro v2 W2 h3; have H3 := Lib.hid h3; clear h3))
                  all_goals go_meet
                  all_goals have hE : M = [lineM t] := HE.out
                  all_goals rw [hE]
                  all_goals exact H3.out
                | false =>
                  go_wp2_with fail
                  go_region_held3 (fun w' => w'.cell? ⟨ga, oa + j * 4, none⟩ = some (.int .i64 prev.kind) ∧ w'.cell? ⟨ga, oa + j * 4 + 1, none⟩ = some (.string prev.text) ∧ w'.cell? ⟨ga, oa + j * 4 + 2, none⟩ = some (.int .i64 prev.line) ∧ w'.cell? ⟨ga, oa + j * 4 + 3, none⟩ = some (.int .i64 prev.col) ∧ w'.cell? ⟨wr.heap.size, 0, none⟩ = some (.int .i64 t.kind) ∧ w'.cell? ⟨wr.heap.size, 1, none⟩ = some (.string t.text) ∧ w'.cell? ⟨wr.heap.size, 2, none⟩ = some (.int .i64 t.line) ∧ w'.cell? ⟨wr.heap.size, 3, none⟩ = some (.int .i64 t.col)) (go_keep) (first
                    | (go_at_call 22; refine (HF.out _).mono ?_; rintro e w2 ⟨rfl, hb2⟩; have HB2 := Lib.hid (undrew (n := 1) hb2); have H4 := Lib.hid (H2.out.below HB2.out); have HL2 := Lib.hid (HL1.out.below HB2.out (Nat.le_refl _)); obtain ⟨d0, d1, d2, d3⟩ := H4.out.cells; obtain ⟨q0, q1, q2, q3⟩ := HL2.out.four j prev HP1.out; clear hb2))
                  all_goals go_wp2_with fail
                  all_goals go_meet
                  all_goals have hE : M = [] := HE.out
                  all_goals rw [hE, List.append_nil]
                  all_goals exact H4.out
          case rest =>
            have HC := Lib.hid hcut
            obtain ⟨c0, c1, c2, c3⟩ := hcut.cells
            have HLN2 : Hid ((acc ++ M).length ≤ 2 * k + 1) := by
              have h := HGO.out.len
              unfold Hid
              simp only [List.length_append, List.length_cons, List.length_nil] at h ⊢
              omega
            clear hcut a0 a1 a2 a3 HB HO HI HMID H2 HPV HME HLEN
            cases hop : opensT t with
            | false =>
              have HOP : Hid (∀ W, Calls Try.prog 11 #[.agg #[.int .i64 t.kind, .string t.text, .int .i64 t.line, .int .i64 t.col]] W fun e w' => e = .returned (.bool false) ∧ Below W.heap.size W w') := fun W => by
                have := refopens_any t W
                rw [hop] at this
                exact this
              have hw4 : IntKind.i64.wrap ((k : Int) + 1) = (k : Int) + 1 := by rw [IntWalk.i64_left]; exact HW.out
              have hw5 : wrap64 ((k : Int) + 1) = (k : Int) + 1 := HW.out
              have NB : Hid (nextB false (opensT t) (l.drop (k + 1)) = false) := by
                unfold Hid
                rw [hop]
                cases l.drop (k + 1) with
                | nil => rfl
                | cons u r => rfl
              clear hop
              go_wp2_with (first | (at_builtin; refine push_two w _ rfl _ _ rfl _ _ wr.heap.size t rfl (by exact HC.out) t _ _ rfl (by have := HLN2.out; have := HM.out; omega) ?_; intro v2 W2 h3; have H3 := Lib.hid h3; have HL3 := Lib.hid (HA.out.below h3.bel (Nat.le_refl _)); obtain ⟨d0, d1, d2, d3⟩ := h3.cells; clear h3) | (go_at_call 11; refine (HOP.out _).mono ?_; rintro e w5 ⟨rfl, hb5⟩; have H5 := Lib.hid (H3.out.below hb5); have HL5 := Lib.hid (HL3.out.below hb5 (Nat.le_refl _)); clear hb5))
              refine ⟨⟨k + 1, acc ++ M ++ [t], false, by go_num, by omega, rfl, H5.out.own, H5.out.bel, by rw [← NB.out]; exact HGO.out⟩, ?_⟩
              · simp [intOf, HW.out]
                omega
            | true =>
              have HOP : Hid (∀ W, Calls Try.prog 11 #[.agg #[.int .i64 t.kind, .string t.text, .int .i64 t.line, .int .i64 t.col]] W fun e w' => e = .returned (.bool true) ∧ Below W.heap.size W w') := fun W => by
                have := refopens_any t W
                rw [hop] at this
                exact this
              have hw4 : IntKind.i64.wrap ((k : Int) + 1) = (k : Int) + 1 := by rw [IntWalk.i64_left]; exact HW.out
              have hw5 : wrap64 ((k : Int) + 1) = (k : Int) + 1 := HW.out
              by_cases hlast : k + 1 = l.length
              · have x1 : ((k : Int) + 1 == (l.length : Int)) = true := by rw [beq_iff_eq]; omega
                have NB : Hid (nextB false (opensT t) (l.drop (k + 1)) = true) := by
                  unfold Hid
                  rw [hop, List.drop_eq_nil_of_le (by omega)]
                  rfl
                clear hop hlast
                go_wp2_with (first | (at_builtin; refine push_two w _ rfl _ _ rfl _ _ wr.heap.size t rfl (by exact HC.out) t _ _ rfl (by have := HLN2.out; have := HM.out; omega) ?_; intro v2 W2 h3; have H3 := Lib.hid h3; have HL3 := Lib.hid (HA.out.below h3.bel (Nat.le_refl _)); obtain ⟨d0, d1, d2, d3⟩ := h3.cells; clear h3) | (go_at_call 11; refine (HOP.out _).mono ?_; rintro e w5 ⟨rfl, hb5⟩; have H5 := Lib.hid (H3.out.below hb5); have HL5 := Lib.hid (HL3.out.below hb5 (Nat.le_refl _)); clear hb5))
                refine ⟨⟨k + 1, acc ++ M ++ [t], true, by go_num, by omega, rfl, H5.out.own, H5.out.bel, by rw [← NB.out]; exact HGO.out⟩, ?_⟩
                · simp [intOf, HW.out]
                  omega
              · have x1 : ((k : Int) + 1 == (l.length : Int)) = false := by rw [beq_eq_false_iff_ne]; omega
                obtain ⟨u, hu⟩ : ∃ u, l[k + 1]? = some u := ⟨_, List.getElem?_eq_getElem (by omega)⟩
                have NB : Hid (nextB false (opensT t) (l.drop (k + 1)) = !braceT u) := by
                  unfold Hid
                  rw [hop, drop_at hu]
                  simp [nextB]
                have HU := Lib.hid hu
                have i0 : (0 : Int) ≤ (k : Int) + 1 := by omega
                have i1 : (k : Int) + 1 < (l.length : Int) := by omega
                have i2 : (k : Int) + 1 ≤ (l.length : Int) := by omega
                clear hop hlast hu
                go_wp2_with (first | (at_builtin; refine push_two w _ rfl _ _ rfl _ _ wr.heap.size t rfl (by exact HC.out) t _ _ rfl (by have := HLN2.out; have := HM.out; omega) ?_; intro v2 W2 h3; have H3 := Lib.hid h3; have HL3 := Lib.hid (HA.out.below h3.bel (Nat.le_refl _)); obtain ⟨d0, d1, d2, d3⟩ := h3.cells; clear h3) | (go_at_call 11; refine (HOP.out _).mono ?_; rintro e w5 ⟨rfl, hb5⟩; have H5 := Lib.hid (H3.out.below hb5); have HL5 := Lib.hid (HL3.out.below hb5 (Nat.le_refl _)); obtain ⟨e0, e1, e2, e3⟩ := HL5.out.four (k + 1) u HU.out; clear hb5) | (go_at_call 21; refine (refbrace_any u _).mono ?_; rintro e w6 ⟨rfl, hb6⟩; have H6 := Lib.hid (H5.out.below hb6); clear hb6))
                refine ⟨⟨k + 1, acc ++ M ++ [t], (!braceT u), by go_num, by omega, rfl, H6.out.own, H6.out.bel, by rw [← NB.out]; exact HGO.out⟩, ?_⟩
                · simp [intOf, HW.out]
                  omega
        · have HF := Lib.hid (HMID.out.fin hp)
          cases bb with
          | true =>
            go_wp2_with (first | (at_builtin; refine push_one w _ rfl _ _ rfl _ _ rfl HO.out HB.out lastM _ _ rfl (by have := HLEN.out; have := HM.out; omega) ?_; intro v2 W2 o2 b2; have O2 := Lib.hid o2; have B2 := Lib.hid b2; clear o2 b2))
            go_ret
            have hf : acc ++ [lastM] = markL nl l := HF.out
            exact ⟨_, rfl, by rw [← hf]; exact O2.out, B2.out⟩
          | false =>
            go_wp2_with fail
            go_ret
            have hf : acc ++ [] = markL nl l := HF.out
            rw [List.append_nil] at hf
            exact ⟨_, rfl, by rw [← hf]; exact HO.out, HB.out⟩
end Go.Proofs.Ythjckmoobbpidaa.Mrk
