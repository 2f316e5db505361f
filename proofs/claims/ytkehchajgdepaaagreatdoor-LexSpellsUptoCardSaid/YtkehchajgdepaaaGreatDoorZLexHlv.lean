/-
  Slices of tokens that are only read, and the contracts of package lexer's Same and of the document's own Same over them. Condition: fewer than 2^40 tokens.
-/
import Derived.Test.YtkehchajgdepaaaGreatDoorZLexOwn
import Derived.Test.YtkehchajgdepaaaGreatDoorZPlcA
import Derived.Test.YtkehchajgdepaaaGreatDoorZLexB
import Derived.Deep.Draws
import Derived.Deep.QuietTactic
import Derived.BigQuiet
import Derived.LoopTactic
import Derived.Handy
import Derived.Deep.AppendSrc
namespace Go.Proofs.YtkehchajgdepaaaGreatDoor.Lx
open Go.RowKit Gly
set_option linter.unusedSimpArgs false
set_option linter.unusedVariables false

/-- A token as it is read. -/
structure Tk where
  kind : Int
  text : ByteArray
  line : Int
  col : Int
def tkC (t : Tk) : List Value := [.int .i64 t.kind, .string t.text, .int .i64 t.line, .int .i64 t.col]
/-- The tokens that a slice holds. -/
def TkArg (w : World) (v : Value) (l : List Tk) : Prop :=
  (l = [] ∧ ∃ a c, v = .slice a 0 c) ∨
  (∃ b off c, v = .slice (some ⟨b, off, none⟩) l.length c ∧ b < w.heap.size ∧ ∀ (i : Nat) (t : Tk), l[i]? = some t → ∀ k : Nat, k < 4 → w.cell? ⟨b, off + i * 4 + k, none⟩ = (tkC t)[k]?)
theorem TkArg.below {w w' : World} {v : Value} {l : List Tk} {B : Nat} (h : TkArg w v l) (hb : Below B w w') (hB : w.heap.size ≤ B) : TkArg w' v l := by
  rcases h with h | ⟨b, off, c, hv, hlt, hc⟩
  · exact .inl h
  · exact .inr ⟨b, off, c, hv, Nat.lt_of_lt_of_le hlt hb.size, fun i t ht k hk => (World.cell?_of_block (hb.block b (Nat.lt_of_lt_of_le hlt hB))).trans (hc i t ht k hk)⟩
theorem TkArg.four {w : World} {b off c n : Nat} {l : List Tk} (h : ∀ (i : Nat) (t : Tk), l[i]? = some t → ∀ k : Nat, k < 4 → w.cell? ⟨b, off + i * 4 + k, none⟩ = (tkC t)[k]?) (i : Nat) (t : Tk) (ht : l[i]? = some t) :
    w.cell? ⟨b, off + i * 4, none⟩ = some (.int .i64 t.kind) ∧ w.cell? ⟨b, off + i * 4 + 1, none⟩ = some (.string t.text) ∧ w.cell? ⟨b, off + i * 4 + 2, none⟩ = some (.int .i64 t.line) ∧ w.cell? ⟨b, off + i * 4 + 3, none⟩ = some (.int .i64 t.col) :=
  ⟨h i t ht 0 (by omega), h i t ht 1 (by omega), h i t ht 2 (by omega), h i t ht 3 (by omega)⟩
/-- What the tokens of a row are, read. -/
def tkOf (s : ByteArray) (t : It) : Tk := ⟨t.kind, txt s t, lineS s t.fr, colS s t.fr⟩
theorem Toks.arg {s : ByteArray} {w : World} {B : Nat} {v : Value} {l : List It} (h : Toks s w B v l) : TkArg w v (l.map (tkOf s)) := by
  by_cases hl : 0 < l.length
  · obtain ⟨g, c, rfl, _, hlt⟩ := h.form hl
    refine .inr ⟨g, 0, c, by rw [List.length_map], hlt, fun i t ht k hk => ?_⟩
    rw [List.getElem?_map] at ht
    obtain ⟨u, hu, rfl⟩ := Option.map_eq_some_iff.1 ht
    rw [Nat.zero_add]
    exact h.cell i k u hu hk
  · obtain rfl : l = [] := List.eq_nil_of_length_eq_zero (by omega)
    rcases h.2 with ⟨rfl, _⟩ | ⟨g, cap, cur, rfl, _⟩
    · exact .inl ⟨rfl, _, _, rfl⟩
    · exact .inl ⟨rfl, _, _, rfl⟩
/-- Of two tokens: the same kind, the same text. -/
def sm (t u : Tk) : Bool := t.kind == u.kind && t.text.data.toList == u.text.data.toList
/-- Of two rows. -/
def sameT (a b : List Tk) : Bool := a.length == b.length && (List.range a.length).all fun i => match a[i]?, b[i]? with | some t, some u => sm t u | _, _ => true
theorem sameT_len {a b : List Tk} (h : a.length ≠ b.length) : sameT a b = false := by
  unfold sameT
  rw [beq_eq_false_iff_ne.2 h]
  rfl
theorem sameT_no {a b : List Tk} (i : Nat) (t u : Tk) (ha : a[i]? = some t) (hb : b[i]? = some u) (h : sm t u = false) : sameT a b = false := by
  unfold sameT
  have hi : i < a.length := (List.getElem?_eq_some_iff.1 ha).1
  have : ((List.range a.length).all fun i => match a[i]?, b[i]? with | some t, some u => sm t u | _, _ => true) = false := by
    rw [List.all_eq_false]
    refine ⟨i, List.mem_range.2 hi, ?_⟩
    rw [ha, hb]
    dsimp only
    rw [h]
    decide
  rw [this, Bool.and_false]
theorem sameT_yes {a b : List Tk} (hl : a.length = b.length) (h : ∀ (i : Nat) t u, a[i]? = some t → b[i]? = some u → sm t u = true) : sameT a b = true := by
  unfold sameT
  rw [beq_iff_eq.2 hl, Bool.true_and, List.all_eq_true]
  intro i hi
  have hi := List.mem_range.1 hi
  rw [List.getElem?_eq_getElem hi, List.getElem?_eq_getElem (by omega : i < b.length)]
  exact h i _ _ (List.getElem?_eq_getElem hi) (List.getElem?_eq_getElem (by omega))

theorem same1_any (t u : Tk) (w : World) :
    Calls Tryz.prog 28 #[.agg #[.int .i64 t.kind, .string t.text, .int .i64 t.line, .int .i64 t.col], .agg #[.int .i64 u.kind, .string u.text, .int .i64 u.line, .int .i64 u.col]] w fun e w' => e = .returned (.bool (sm t u)) ∧ Below w.heap.size w w' := by
  have HS : Hid (sm t u = (t.kind == u.kind && t.text.data.toList == u.text.data.toList)) := rfl
  go_enter Tryz.func28, Tryz.ntmps28
  go_wp2
  all_goals go_ret
  all_goals refine ⟨?_, by go_grown⟩
  all_goals rw [HS.out]
  all_goals refine congrArg (fun b : Bool => Ending.returned (Value.bool b)) ?_
  all_goals (try simp only [Lib.toList_data] at *)
  all_goals (first | (simp [*]; done) | simp_all)

theorem idx_at (k n : Nat) (h : k < n) (hm : n ≤ 1099511627776) : wrap64 ((k : Int) + 1) = (k : Int) + 1 := by
  have h1 : (k : Int) ≤ 1099511627776 := by omega
  have h2 : (0 : Int) ≤ (k : Int) := by omega
  generalize (k : Int) = z at h1 h2 ⊢
  unfold wrap64
  omega
theorem TkArg.len {w : World} {v : Value} {l : List Tk} (h : TkArg w v l) : ∃ a c, v = .slice a l.length c := by
  rcases h with ⟨rfl, a, c, rfl⟩ | ⟨b, off, c, rfl, -⟩
  · exact ⟨a, c, rfl⟩
  · exact ⟨_, c, rfl⟩
theorem TkArg.cells {w : World} {v : Value} {l : List Tk} (h : TkArg w v l) (hl : l.length ≠ 0) : ∃ b off c, v = .slice (some ⟨b, off, none⟩) l.length c ∧ b < w.heap.size ∧ ∀ (i : Nat) (t : Tk), l[i]? = some t → ∀ k : Nat, k < 4 → w.cell? ⟨b, off + i * 4 + k, none⟩ = (tkC t)[k]? := by
  rcases h with ⟨rfl, -⟩ | h
  · exact absurd rfl hl
  · exact h
/-- Cells that a later world still holds. -/
def TkIn (w : World) (b off : Nat) (l : List Tk) : Prop := b < w.heap.size ∧ ∀ (i : Nat) (t : Tk), l[i]? = some t → ∀ k : Nat, k < 4 → w.cell? ⟨b, off + i * 4 + k, none⟩ = (tkC t)[k]?
theorem TkIn.below {w w' : World} {b off : Nat} {l : List Tk} {B : Nat} (h : TkIn w b off l) (hb : Below B w w') (hB : w.heap.size ≤ B) : TkIn w' b off l :=
  ⟨Nat.lt_of_lt_of_le h.1 hb.size, fun i t ht k hk => (World.cell?_of_block (hb.block b (Nat.lt_of_lt_of_le h.1 hB))).trans (h.2 i t ht k hk)⟩
theorem TkIn.four {w : World} {b off : Nat} {l : List Tk} (h : TkIn w b off l) (i : Nat) (t : Tk) (ht : l[i]? = some t) :
    w.cell? ⟨b, off + i * 4, none⟩ = some (.int .i64 t.kind) ∧ w.cell? ⟨b, off + i * 4 + 1, none⟩ = some (.string t.text) ∧ w.cell? ⟨b, off + i * 4 + 2, none⟩ = some (.int .i64 t.line) ∧ w.cell? ⟨b, off + i * 4 + 3, none⟩ = some (.int .i64 t.col) :=
  ⟨h.2 i t ht 0 (by omega), h.2 i t ht 1 (by omega), h.2 i t ht 2 (by omega), h.2 i t ht 3 (by omega)⟩
theorem below2 {wr w5 : World} {o1 o2 : Obj} (h : Below ((wr.alloc o1).alloc o2).heap.size ((wr.alloc o1).alloc o2) w5) : Below wr.heap.size wr w5 := by
  have h1 : Below wr.heap.size wr (wr.alloc o1) := (Below.refl _ _).alloc (Nat.le_refl _) o1
  have h2 : Below wr.heap.size wr ((wr.alloc o1).alloc o2) := h1.alloc h1.size o2
  exact h2.trans (h.mono h2.size)
set_option maxHeartbeats 4000000 in
theorem eqfunc_any (va vb : Value) (la lb : List Tk) (w : World) (ha : TkArg w va la) (hb : TkArg w vb lb) (hm : la.length ≤ 1099511627776) :
    Calls Tryz.prog 27 #[va, vb, .func (.func 28) #[] #[]] w fun e w' => e = .returned (.bool (sameT la lb)) ∧ Below w.heap.size w w' := by
  by_cases hl : la.length = lb.length
  · by_cases h0 : la.length = 0
    · obtain ⟨a1, c1, rfl⟩ := ha.len
      obtain ⟨a2, c2, rfl⟩ := hb.len
      rw [← hl, h0]
      have hs : sameT la lb = true := sameT_yes hl fun i t u ht _ => by
        have := (List.getElem?_eq_some_iff.1 ht).1
        omega
      rw [hs]
      clear ha hb hl h0 hs hm
      go_enter Tryz.func27, Tryz.ntmps27
      go_wp2_with fail
      go_loopw [17] (fun i wr => i = .int .i64 0 ∧ wr = w) (fun _ _ => 0)
      case atStart => exact ⟨rfl, rfl⟩
      case round =>
        obtain ⟨rfl, rfl⟩ := hrel
        go_wp2_with fail
        go_ret
        exact ⟨rfl, Below.refl _ _⟩
    · obtain ⟨b1, o1, c1, rfl, hlt1, hc1⟩ := ha.cells h0
      obtain ⟨b2, o2, c2, rfl, hlt2, hc2⟩ := hb.cells (by omega)
      have HA : Hid (TkIn w b1 o1 la) := ⟨hlt1, hc1⟩
      have HB : Hid (TkIn w b2 o2 lb) := ⟨hlt2, hc2⟩
      rw [← hl]
      have HL := Lib.hid hl
      have HM := Lib.hid hm
      obtain ⟨X, hX⟩ : ∃ X, X = sameT la lb := ⟨_, rfl⟩
      rw [← hX]
      have HX := Lib.hid hX
      clear ha hb hlt1 hc1 hlt2 hc2 hl hm hX
      go_enter Tryz.func27, Tryz.ntmps27
      go_wp2_with fail
      go_loopw [17] (fun i wr => ∃ (k : Nat), i = .int .i64 (k : Int) ∧ Below w.heap.size w wr ∧ k ≤ la.length ∧ ∀ (j : Nat) t u, j < k → la[j]? = some t → lb[j]? = some u → sm t u = true) (fun i _ => la.length - (intOf i).toNat)
      case atStart => exact ⟨0, rfl, Below.refl _ _, by omega, fun j t u hj => absurd hj (by omega)⟩
      case round =>
        obtain ⟨k, rfl, hbw, hk, hsm⟩ := hrel
        have HBW := Lib.hid hbw
        have HSM := Lib.hid hsm
        clear hbw hsm
        by_cases hp : k < la.length
        · obtain ⟨t, ht⟩ : ∃ t, la[k]? = some t := ⟨_, List.getElem?_eq_getElem hp⟩
          obtain ⟨u, hu⟩ : ∃ u, lb[k]? = some u := ⟨_, List.getElem?_eq_getElem (by have := HL.out; omega)⟩
          have HT := Lib.hid ht
          have HU := Lib.hid hu
          obtain ⟨x0, x1, x2, x3⟩ := (HA.out.below HBW.out (Nat.le_refl _)).four k t ht
          have y := fun o => ((HB.out.below HBW.out (Nat.le_refl _)).below ((Below.refl wr.heap.size wr).alloc (Nat.le_refl _) o) (Nat.le_refl _)).four k u hu
          have y0 := fun o => (y o).1
          have y1 := fun o => (y o).2.1
          have y2 := fun o => (y o).2.2.1
          have y3 := fun o => (y o).2.2.2
          have hw : wrap64 ((k : Int) + 1) = (k : Int) + 1 := idx_at k la.length hp HM.out
          have HW := Lib.hid hw
          have i0 : (0 : Int) ≤ (k : Int) := by omega
          have i1 : (k : Int) < (la.length : Int) := by omega
          have C := Lib.hid (fun W => same1_any t u W)
          obtain ⟨r, hr⟩ : ∃ r, r = sm t u := ⟨_, rfl⟩
          rw [← hr] at C
          have HR := Lib.hid hr
          clear ht hu y hr hw
          cases hrr : r with
          | false =>
            rw [hrr] at C
            have HRR := Lib.hid hrr
            clear hrr
            go_wp2_with (first | (go_at_call 28; refine (C.out _).mono ?_; rintro e w5 ⟨rfl, hb5⟩))
            go_ret
            refine ⟨by rw [HX.out, sameT_no k t u HT.out HU.out (by rw [← HR.out, HRR.out])]; rfl, ?_⟩
            exact HBW.out.trans ((below2 hb5).mono HBW.out.size)
          | true =>
            rw [hrr] at C
            have HRR := Lib.hid hrr
            clear hrr
            go_wp2_with (first | (go_at_call 28; refine (C.out _).mono ?_; rintro e w5 ⟨rfl, hb5⟩))
            have HB5 : Hid (Below w.heap.size w w5) := HBW.out.trans ((below2 hb5).mono HBW.out.size)
            clear hb5
            go_roundw
            case rel =>
              rw [HW.out]
              refine ⟨k + 1, by go_num, HB5.out, by omega, fun j t' u' hj h1 h2 => ?_⟩
              by_cases q : j < k
              · exact HSM.out j t' u' q h1 h2
              · obtain rfl : j = k := by omega
                rw [HT.out] at h1
                rw [HU.out] at h2
                injection h1 with h1
                injection h2 with h2
                subst h1 h2
                rw [← HR.out, HRR.out]
            case measure =>
              rw [HW.out]
              simp [intOf]
              omega
        · go_wp2_with fail
          go_ret
          refine ⟨?_, HBW.out⟩
          rw [HX.out, sameT_yes HL.out (fun i t u h1 h2 => HSM.out i t u (by have := (List.getElem?_eq_some_iff.1 h1).1; omega) h1 h2)]
          rfl
  · obtain ⟨a1, c1, rfl⟩ := ha.len
    obtain ⟨a2, c2, rfl⟩ := hb.len
    have b1 : (((la.length : Nat) : Int) != ((lb.length : Nat) : Int)) = true := by rw [bne_iff_ne]; omega
    rw [sameT_len hl]
    clear ha hb hl hm
    go_enter Tryz.func27, Tryz.ntmps27
    go_wp2_with fail
    go_ret
    exact ⟨rfl, Below.refl _ _⟩
theorem same_any (va vb : Value) (la lb : List Tk) (w : World) (ha : TkArg w va la) (hb : TkArg w vb lb) (hm : la.length ≤ 1099511627776) :
    Calls Tryz.prog 15 #[va, vb] w fun e w' => e = .returned (.bool (sameT la lb)) ∧ Below w.heap.size w w' := by
  go_enter Tryz.func15, Tryz.ntmps15
  go_wp2_with fail
  refine (eqfunc_any va vb la lb w ha hb hm).mono ?_
  rintro e w1 ⟨rfl, hb1⟩
  go_wp2_with fail
  go_ret
  exact ⟨rfl, hb1⟩
end Go.Proofs.YtkehchajgdepaaaGreatDoor.Lx
/-
  The walk of the law LexHalves. Conditions: each string has at most 2^47 - 4096 bytes; the program's list of names stands.
-/
namespace Go.Proofs.YtkehchajgdepaaaGreatDoor.Lx
open Go.RowKit Gly
set_option linter.unusedSimpArgs false
set_option linter.unusedVariables false

theorem run_append_nil {P : Program} (w : World) (t ty e : TypeId) (i : TypeInfo) (ht : P.underlying t = some (.slice e)) (hi : P.info? e = some i) (v : Value) (base size n : Nat) (xs : List Value) (hown : w.ownsRow base e size v n xs) (c : Nat) :
    (Builtin.append_ #[t, t] ty #[v, .slice none 0 c]).run P w = .ok v w := by
  rcases hown.2 with ⟨rfl, rfl⟩ | ⟨g, cap, cur, rfl, _, _, hnc, _, _, _⟩
  · simp [Builtin.append_, run_underlying ht, sizeOf, typeInfo, hi, Builtin.lenOf, Builtin.firstCells]
  · have := run_append_room_src w t t ty e i ht hi g 0 n cap (.slice none 0 c) 0 [] (Src.ofNil w ht c) (by omega) (fun j hj => absurd hj (by simp)) (fun j hj => absurd hj (by simp))
    simpa [World.setCells] using this
theorem tk_len (t : Tk) : (tkC t).length = 4 := rfl
theorem own_arg {w : World} {B : Nat} {v : Value} {l : List Tk} (h : w.ownsRow B 36 4 v l.length (l.flatMap tkC)) : TkArg w v l := by
  rcases h.2 with ⟨rfl, h0⟩ | ⟨g, cap, cur, rfl, hb, hg, _⟩
  · obtain rfl : l = [] := List.eq_nil_of_length_eq_zero h0
    exact .inl ⟨rfl, _, _, rfl⟩
  · refine .inr ⟨g, 0, cap, rfl, lt_of_block hg, fun i t ht k hk => ?_⟩
    have h0 := flat_at tkC 4 tk_len l i k t ht hk
    obtain ⟨u, hu⟩ : ∃ u, (tkC t)[k]? = some u := ⟨_, List.getElem?_eq_getElem (by rw [tk_len]; exact hk)⟩
    rw [hu] at h0 ⊢
    have := World.ownsRow.cells h (g := g) rfl _ _ h0
    rw [add_plain] at this
    rw [Nat.zero_add]
    exact this
theorem tk_news {w : World} {b off : Nat} {l : List Tk} (h : ∀ (i : Nat) (t : Tk), l[i]? = some t → ∀ k : Nat, k < 4 → w.cell? ⟨b, off + i * 4 + k, none⟩ = (tkC t)[k]?) (j : Nat) (u : Value) (hj : (l.flatMap tkC)[j]? = some u) : w.cell? ((⟨b, off, none⟩ : Addr).add j) = some u := by
  have hlen := (List.getElem?_eq_some_iff.1 hj).1
  rw [flat_len tkC 4 tk_len] at hlen
  have hi : j / 4 < l.length := by omega
  have h0 := flat_at tkC 4 tk_len l (j / 4) (j % 4) _ (List.getElem?_eq_getElem hi) (by omega)
  rw [show j / 4 * 4 + j % 4 = j by omega, hj] at h0
  have h1 := h (j / 4) _ (List.getElem?_eq_getElem hi) (j % 4) (by omega)
  rw [← h0] at h1
  have e : (⟨b, off, none⟩ : Addr).add j = ⟨b, off + j / 4 * 4 + j % 4, none⟩ := by
    rw [show off + j / 4 * 4 + j % 4 = off + j by omega]
    unfold Addr.add
    split <;> simp_all
  rw [e]
  exact h1
/-- append of a slice's tokens, whatever the slice, to a row of the call's own. -/
theorem append_toks (w : World) {ops : Array Oper} {rest : List Oper} {o : Oper} {a : Act} {Q : Exit → Act → World → Prop} (hg : o.guard = none) (sl x : Operand) (hop : o.op = Op.call { callee := Callee.builtin Builtin.append, args := #[sl, x], argTypes := #[23, 23] })
    (base : Nat) (v : Value) (n : Nat) (xs : List Value) (hs : a.eval sl = v) (hown : w.ownsRow base 36 4 v n xs) (vx : Value) (l : List Tk) (hx : a.eval x = vx) (hsrc : TkArg w vx l) (b1 : n + l.length ≤ 1099511627776) (hB : base ≤ w.heap.size)
    (hK : ∀ v' w', w'.ownsRow base 36 4 v' (n + l.length) (xs ++ l.flatMap tkC) → w.grownBy w' v.ownBlock → (v'.ownBlock = v.ownBlock ∨ v'.ownBlock = some w.heap.size) → wpList Tryz.prog ops Q rest (a.put o.dst v') w') :
    wpList Tryz.prog ops Q (o :: rest) a w := by
  obtain ⟨i0, hi, hz0, hz1, hz2⟩ := info_parts infoTok
  have one : ∀ u ∈ l.flatMap tkC, u.oneCell' = true := by
    intro u hu
    obtain ⟨t, _, ht⟩ := List.mem_flatMap.1 hu
    simp only [tkC, List.mem_cons, List.not_mem_nil, or_false] at ht
    rcases ht with rfl | rfl | rfl | rfl <;> rfl
  have some_ : ∀ (ad : Addr) (c : Nat), vx = .slice (some ad) l.length c → (∀ j u, (l.flatMap tkC)[j]? = some u → w.cell? (ad.add j) = some u) → wpList Tryz.prog ops Q (o :: rest) a w := by
    intro ad c hv hc
    subst hv
    refine wpList_append_own_at w hg sl x 23 hop base 36 i0 _ 4 40 Tryz.underlying23 hi hz0 hz1 hz2 rfl (by decide) v n xs hs hown ad l.length c (l.flatMap tkC) hx (flat_len tkC 4 tk_len l) hc one (by unfold maxLen; omega) (by omega) hB ?_
    intro v' w' h1 h2 _ h4
    exact hK v' w' h1 h2 h4
  rcases hsrc with ⟨rfl, ad, c, rfl⟩ | ⟨b, off, c, rfl, _, hc⟩
  · cases ad with
    | some ad => exact some_ ad c rfl (fun j u hj => by simp at hj)
    | none =>
      refine wpList_plain hg fun K hK' => ?_
      have hr := run_append_nil (P := Tryz.prog) w 23 o.type 36 i0 Tryz.underlying23 hi v base 4 n xs hown c
      unfold Oper.wp execOp
      simp only [hop, resolve, invoke, builtin, Sem.run_bind, Sem.run_pure, Result.andThen_ok, List.map_toArray, List.map_cons, List.map_nil, hs, hx, hr]
      refine hK' _ _ (hK v w (by simpa using hown) ⟨rfl, rfl, rfl, Nat.le_refl _, fun _ _ _ => rfl⟩ (.inl rfl))
  · exact some_ _ c rfl (tk_news hc)

/-! ### The mathematics -/

def keyT (t : Tk) : Int × List UInt8 := (t.kind, t.text.data.toList)
theorem sameT_key {a b : List Tk} (h : a.map keyT = b.map keyT) : sameT a b = true := by
  refine sameT_yes (by have := congrArg List.length h; simpa using this) fun i t u ha hb => ?_
  have h1 : (a.map keyT)[i]? = some (keyT t) := by rw [List.getElem?_map, ha]; rfl
  have h2 : (b.map keyT)[i]? = some (keyT u) := by rw [List.getElem?_map, hb]; rfl
  rw [h, h2] at h1
  injection h1 with h1
  have e1 : u.kind = t.kind := congrArg Prod.fst h1
  have e2 : u.text.data.toList = t.text.data.toList := congrArg Prod.snd h1
  unfold sm
  rw [e1, e2, beq_self_eq_true, beq_self_eq_true]
  rfl
theorem key_of (s : ByteArray) (l : List It) : (l.map (tkOf s)).map keyT = l.map (itm s) := by
  rw [List.map_map]
  rfl
theorem tokS_items (s : ByteArray) (h : errS s = 0) : ((toksL (itemsS s)).map (tkOf s)).map keyT = tokS s := by
  obtain ⟨-, -, h3⟩ := err_ok s h
  rw [key_of, h3]
  exact (toks_map s _).symm
theorem halves_is (a b c : ByteArray) (ha : errS a = 0) (hb : errS b = 0) (hsa : a.size ≤ 30000) (hsb : b.size ≤ 30000) (hc : c.data.toList = a.data.toList ++ 10 :: b.data.toList) :
    errS c = 0 ∧ sameT ((toksL (itemsS c)).map (tkOf c)) ((toksL (itemsS a)).map (tkOf a) ++ (toksL (itemsS b)).map (tkOf b)) = true := by
  obtain ⟨a1, a2, -⟩ := err_ok a ha
  obtain ⟨b1, b2, -⟩ := err_ok b hb
  have hsz : c.size ≤ 16777216 := by
    rw [Lib.size_eq, hc, List.length_append, List.length_cons, ← Lib.size_eq, ← Lib.size_eq]
    omega
  have hok : Ok c.data.toList := by
    rw [hc]
    exact halves_ok (runes_ok a a1).1 (runes_ok b b1).1
  obtain ⟨r1, -⟩ := ok_runes c hok hsz
  obtain ⟨l1, l2⟩ := halves_text a b c a2 b2 hc
  have he : errS c = 0 := by
    unfold errS
    rw [if_neg (by omega)]
    exact l1
  refine ⟨he, sameT_key ?_⟩
  rw [List.map_append, tokS_items c he, tokS_items a ha, tokS_items b hb, l2]
theorem items_bd2 (s : ByteArray) : (itemsS s).length ≤ 16777216 := by
  by_cases h : errS s = 0
  · obtain ⟨h1, h2, h3⟩ := err_ok s h
    obtain ⟨j, hj⟩ := at_lexS s
    have := hj.count
    have := hj.le
    have := (runes_ok s h1).2
    rw [h3]
    omega
  · unfold itemsS
    rw [if_neg h]
    exact Nat.zero_le _
theorem toks_bd2 (s : ByteArray) : (toksL (itemsS s)).length ≤ 16777216 := Nat.le_trans (List.length_filter_le _ _) (items_bd2 s)

theorem own_slice5 {w : World} {B size n : Nat} {e : TypeId} {v : Value} {xs : List Value} (h : w.ownsRow B e size v n xs) : ∃ a k c, v = .slice a k c := by
  rcases h.2 with ⟨rfl, _⟩ | ⟨g, cap, cur, rfl, _⟩
  · exact ⟨_, _, _, rfl⟩
  · exact ⟨_, _, _, rfl⟩
set_option maxHeartbeats 4000000 in
theorem halves_walk (a b : ByteArray) (hs1 : a.size ≤ 140737488351232) (hs2 : b.size ≤ 140737488351232) (w : World) (hN : Qt.Nam w) :
    Calls Tryz.prog 7 #[.string a, .string b] w fun e w' => e = .returned (.bool true) ∧ Below w.heap.size w w' := by
  have C1 := Lib.hid (fun W hN => lex_any a (by omega) W hN)
  have C2 := Lib.hid (fun W hN => lex_any b (by omega) W hN)
  have HN := Lib.hid hN
  clear hN
  by_cases h1 : 30000 < a.size
  · have b1 : decide ((30000 : Int) < (a.size : Int)) = true := decide_eq_true (by omega)
    go_enter Tryz.func7, Tryz.ntmps7
    go_wp2_with fail
    refine (awake_any _ HN.out).mono ?_
    rintro e w1 ⟨rfl, hb1⟩
    go_wp2_with fail
    go_ret
    exact ⟨rfl, hb1⟩
  by_cases h2 : 30000 < b.size
  · have b1 : decide ((30000 : Int) < (a.size : Int)) = false := decide_eq_false (by omega)
    have b2 : decide ((30000 : Int) < (b.size : Int)) = true := decide_eq_true (by omega)
    go_enter Tryz.func7, Tryz.ntmps7
    go_wp2_with fail
    refine (awake_any _ HN.out).mono ?_
    rintro e w1 ⟨rfl, hb1⟩
    go_wp2_with fail
    go_ret
    exact ⟨rfl, hb1⟩
  have b1 : decide ((30000 : Int) < (a.size : Int)) = false := decide_eq_false (by omega)
  have b2 : decide ((30000 : Int) < (b.size : Int)) = false := decide_eq_false (by omega)
  have H1 := Lib.hid h1
  have H2 := Lib.hid h2
  have HTA := Lib.hid (toks_bd2 a)
  have HTB := Lib.hid (toks_bd2 b)
  clear h1 h2
  go_enter Tryz.func7, Tryz.ntmps7
  go_wp2_with fail
  refine (awake_any _ HN.out).mono ?_
  rintro e w1 ⟨rfl, hb1⟩
  have HB1 := Lib.hid hb1
  have N1 := Lib.hid (HN.out.below hb1 (Nat.le_refl _))
  clear hb1
  go_wp2_with fail
  refine (C1.out _ N1.out).mono ?_
  rintro e w2 ⟨va, vna, rfl, hta, -, hb2, -⟩
  have HB2 := Lib.hid (HB1.out.trans (hb2.mono HB1.out.size))
  have N2 := Lib.hid (N1.out.below hb2 (Nat.le_refl _))
  have T2 := Lib.hid hta.arg
  clear hb2 hta
  go_wp2_with fail
  refine (C2.out _ N2.out).mono ?_
  rintro e w3 ⟨vb, vnb, rfl, htb, -, hb3, -⟩
  have HB3 := Lib.hid (HB2.out.trans (hb3.mono HB2.out.size))
  have N3 := Lib.hid (N2.out.below hb3 (Nat.le_refl _))
  have T3 := Lib.hid (T2.out.below hb3 (Nat.le_refl _))
  have U3 := Lib.hid htb.arg
  clear hb3 htb
  obtain ⟨xa, hxa⟩ : ∃ x, x = errS a := ⟨_, rfl⟩
  obtain ⟨xb, hxb⟩ : ∃ x, x = errS b := ⟨_, rfl⟩
  rw [← hxa, ← hxb]
  have HXA := Lib.hid hxa
  have HXB := Lib.hid hxb
  clear hxa hxb
  by_cases ea : xa = 0
  · by_cases eb : xb = 0
    · subst ea eb
      have hcd : (a ++ (⟨#[10]⟩ : ByteArray) ++ b).data.toList = a.data.toList ++ 10 :: b.data.toList := by
        rw [ByteArray.data_append, ByteArray.data_append, Array.toList_append, Array.toList_append]
        simp
      obtain ⟨he, hsame⟩ := halves_is a b _ HXA.out.symm HXB.out.symm (by have := H1.out; omega) (by have := H2.out; omega) hcd
      have hcs : (a ++ (⟨#[10]⟩ : ByteArray) ++ b).size ≤ 1125899906842624 := by
        rw [Lib.size_eq, hcd, List.length_append, List.length_cons, ← Lib.size_eq, ← Lib.size_eq]
        omega
      have C3 := Lib.hid (fun W hN => lex_any _ hcs W hN)
      have HTC := Lib.hid (toks_bd2 (a ++ (⟨#[10]⟩ : ByteArray) ++ b))
      have HE := Lib.hid he
      have HS := Lib.hid hsame
      clear hcd he hsame hcs HXA HXB
      go_wp2_with fail
      refine (C3.out _ N3.out).mono ?_
      rintro e w4 ⟨vc, vnc, rfl, htc, -, hb4, -⟩
      rw [HE.out]
      have HB4 := Lib.hid (HB3.out.trans (hb4.mono HB3.out.size))
      have T4 := Lib.hid (T3.out.below hb4 (Nat.le_refl _))
      have U4 := Lib.hid (U3.out.below hb4 (Nat.le_refl _))
      have V4 := Lib.hid htc.arg
      have HV4 := Lib.hid htc.arg
      clear hb4 htc
      obtain ⟨la, hla⟩ : ∃ l, l = (toksL (itemsS a)).map (tkOf a) := ⟨_, rfl⟩
      obtain ⟨lb, hlb⟩ : ∃ l, l = (toksL (itemsS b)).map (tkOf b) := ⟨_, rfl⟩
      have LA : Hid (la.length ≤ 16777216) := by rw [hla]; unfold Hid; rw [List.length_map]; exact HTA.out
      have LB : Hid (lb.length ≤ 16777216) := by rw [hlb]; unfold Hid; rw [List.length_map]; exact HTB.out
      rw [← hla] at T4 HS
      rw [← hlb] at U4 HS
      clear hla hlb
      go_wp2_with (first | (at_builtin; refine append_toks w4 rfl _ _ rfl w4.heap.size (.slice none 0 0) 0 [] rfl (World.ownsRow_nil _ _ _ _) va la rfl T4.out (by have := LA.out; omega) (Nat.le_refl _) ?_))
      intro v5 w5 o5 g5 p5
      have hb5 : Below w4.heap.size w4 w5 := ⟨g5.os, g5.tape, g5.output, g5.size, fun k hk => g5.block k hk (by simp [Value.ownBlock])⟩
      have O5 : Hid (w5.ownsRow w4.heap.size 36 4 v5 la.length (la.flatMap tkC)) := by unfold Hid; simpa using o5
      have HB5 := Lib.hid hb5
      have U5 := Lib.hid (U4.out.below hb5 (Nat.le_refl _))
      have V5 := Lib.hid (V4.out.below hb5 (Nat.le_refl _))
      have LT5 := Lib.hid (World.ownsRow.lt o5)
      obtain ⟨ka, kk, kc, rfl⟩ := own_slice5 o5
      clear o5 g5 p5 hb5 T4 U4 V4
      go_wp2_with (first | (at_builtin; refine append_toks w5 rfl _ _ rfl w4.heap.size (.slice ka kk kc) la.length (la.flatMap tkC) rfl O5.out vb lb rfl U5.out (by have := LA.out; have := LB.out; omega) HB5.out.size ?_))
      intro v6 w6 o6 g6 p6
      have hb6 : Below w4.heap.size w4 w6 := Below.grown HB5.out g6 HB5.out.size (fun k hk => (LT5.out k hk).1)
      have V6 : Hid (TkArg w6 vc ((toksL (itemsS (a ++ (⟨#[10]⟩ : ByteArray) ++ b))).map (tkOf (a ++ (⟨#[10]⟩ : ByteArray) ++ b)))) := HV4.out.below hb6 (Nat.le_refl _)
      have O6 : Hid (TkArg w6 v6 (la ++ lb)) := by
        refine own_arg (B := w4.heap.size) ?_
        rw [List.length_append, List.flatMap_append]
        exact o6
      obtain ⟨ja, jk, jc, rfl⟩ := own_slice5 o6
      have HB6 := Lib.hid (HB4.out.trans (hb6.mono HB4.out.size))
      clear o6 g6 p6 hb6 O5 U5 V5 HB5 LT5
      go_wp2_with (first | (go_at_call 15; refine (same_any vc (.slice ja jk jc) _ (la ++ lb) _ V6.out O6.out (by rw [List.length_map]; have := HTC.out; omega)).mono ?_; rintro e w7 ⟨rfl, hb7⟩; rw [HS.out]))
      go_ret
      exact ⟨rfl, HB6.out.trans (hb7.mono HB6.out.size)⟩
    · have b4 : (xb != 0) = true := by rw [bne_iff_ne]; exact eb
      subst ea
      clear eb
      go_wp2_with fail
      go_ret
      exact ⟨rfl, HB3.out⟩
  · have b4 : (xa != 0) = true := by rw [bne_iff_ne]; exact ea
    clear ea
    go_wp2_with fail
    go_ret
    exact ⟨rfl, HB3.out⟩
end Go.Proofs.YtkehchajgdepaaaGreatDoor.Lx
