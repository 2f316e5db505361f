/-
  offsidelaw09's own law LayoutNests, where the program's All does what is told of it by the structure Does9. No condition but that.
-/
import Derived.Test.YtmcdclhfjjplnaaLayKep
namespace Go.Proofs.Ytmcdclhfjjplnaa.Lay
open Tks Mrk Go.RowKit
set_option linter.unusedSimpArgs false
set_option linter.unusedVariables false

theorem infoBoolL : (Try.prog.info? 4).map (fun i => (i.zero, i.size, i.bytes)) = some (some (.bool false), 1, 1) := by kernel_rfl
/-- A row of truth values of the call's own. -/
def BoolOwn (w : World) (B : Nat) (v : Value) (l : List Bool) : Prop := w.ownsRow B 4 1 v l.length (l.map Value.bool)
theorem BoolOwn.nil (w : World) (B : Nat) : BoolOwn w B (.slice none 0 0) [] := World.ownsRow_nil _ _ _ _
theorem BoolOwn.len {w : World} {B : Nat} {v : Value} {l : List Bool} (h : BoolOwn w B v l) : ∃ a c, v = .slice a l.length c := by
  rcases h.2 with ⟨rfl, h0⟩ | ⟨g, cap, cur, rfl, _⟩
  · exact ⟨none, 0, by rw [h0]⟩
  · exact ⟨_, _, rfl⟩
theorem BoolOwn.cells {w : World} {B : Nat} {v : Value} {l : List Bool} (h : BoolOwn w B v l) (hl : l.length ≠ 0) : ∃ g c, v = .slice (some ⟨g, 0, none⟩) l.length c ∧ l.length ≤ c ∧ (∀ (i : Nat) (b : Bool), l[i]? = some b → w.cell? ⟨g, i, none⟩ = some (.bool b)) ∧ (∀ m, m ≤ l.length → BoolOwn w B (.slice (some ⟨g, 0, none⟩) m c) (l.take m)) := by
  rcases h.2 with ⟨rfl, h0⟩ | ⟨g, cap, cur, rfl, hb, hg, hnc, hcm, hcs, hct⟩
  · exact absurd h0 hl
  · refine ⟨g, cap, rfl, hnc, fun i b hi => ?_, fun m hm => ?_⟩
    · have := World.ownsRow.cells h (g := g) rfl i (.bool b) (by rw [List.getElem?_map, hi]; rfl)
      rw [add_plain] at this
      exact this
    · have e : (l.take m).length = m := by rw [List.length_take]; omega
      refine ⟨by rw [List.length_map, Nat.mul_one], .inr ⟨g, cap, cur, by rw [e], hb, hg, by rw [e]; omega, hcm, hcs, ?_⟩⟩
      rw [e, List.map_take, ← hct, List.take_take]
      congr 1
      omega
/-- append of a truth value that was just laid. -/
theorem append_bool1 (w wr : World) {ops : Array Oper} {rest : List Oper} {o : Oper} {a : Act} {Q : Exit → Act → World → Prop} (hg : o.guard = none) (sl x : Operand) (hop : o.op = Op.call { callee := Callee.builtin Builtin.append, args := #[sl, x], argTypes := #[41, 41] })
    (v : Value) (l0 : List Bool) (hs : a.eval sl = v) (hown : BoolOwn wr w.heap.size v l0) (hbel : Below w.heap.size w wr) (z : Bool) (ty : TypeId) (c : Nat) (hx : a.eval x = .slice (some ⟨wr.heap.size, 0, none⟩) 1 c) (b1 : l0.length + 1 ≤ 1099511627777)
    (hK : ∀ v' w', BoolOwn w' w.heap.size v' (l0 ++ [z]) → Below w.heap.size w w' → wpList Try.prog ops Q rest (a.put o.dst v') w') :
    wpList Try.prog ops Q (o :: rest) a (wr.alloc (.cells #[.bool z] ty)) := by
  obtain ⟨i0, hi, hz0, hz1, hz2⟩ := info_parts infoBoolL
  have h0 : Below w.heap.size w (wr.alloc (.cells #[.bool z] ty)) := hbel.alloc hbel.size _
  have h1 : BoolOwn (wr.alloc (.cells #[.bool z] ty)) w.heap.size v l0 := World.ownsRow.alloc hown _
  refine wpList_append_own_at _ hg sl x 41 hop w.heap.size 4 i0 _ 1 1 Try.underlying41 hi hz0 hz1 hz2 rfl (by decide) v l0.length (l0.map Value.bool) hs h1 ⟨wr.heap.size, 0, none⟩ 1 c [.bool z] hx rfl ?_ ?_ (by unfold maxLen; omega) (by omega) h0.size ?_
  · intro j u hj
    rw [add_plain, new_cell]
    have hi := (List.getElem?_eq_some_iff.1 hj).1
    simp only [List.length_cons, List.length_nil] at hi
    obtain rfl : j = 0 := by omega
    cases hj
    rfl
  · intro u hu
    rw [List.mem_singleton] at hu
    subst hu
    rfl
  · intro v' w' h2 h3 _ _
    refine hK v' w' ?_ (Below.grown h0 h3 h0.size (fun k hk => (World.ownsRow.lt h1 k hk).1))
    unfold BoolOwn
    rw [List.length_append, List.map_append]
    exact h2
theorem nestF_split : ∀ (a b : List Tk) (st r : List Bool), nestF (a ++ b) st = some r → ∃ s', nestF a st = some s' ∧ nestF b s' = some r
  | [], b, st, r, h => ⟨st, rfl, h⟩
  | t :: a, b, st, r, h => by
    have h : (match nestStep t st with | none => none | some st => nestF (a ++ b) st) = some r := h
    cases e : nestStep t st with
    | none =>
      rw [e] at h
      cases h
    | some s2 =>
      rw [e] at h
      obtain ⟨s', h1, h2⟩ := nestF_split a b s2 r h
      refine ⟨s', ?_, h2⟩
      show (match nestStep t st with | none => none | some st => nestF a st) = some s'
      rw [e]
      exact h1
theorem nest_next {al : List Tk} {j : Nat} {t : Tk} {st : List Bool} (h : nestF al [] = some []) (hj : nestF (al.take j) [] = some st) (ht : al[j]? = some t) : ∃ st', nestStep t st = some st' ∧ nestF (al.take (j + 1)) [] = some st' := by
  rw [← List.take_append_drop (j + 1) al] at h
  obtain ⟨s', h1, -⟩ := nestF_split _ _ _ _ h
  refine ⟨s', ?_, h1⟩
  rw [List.take_add_one, ht] at h1
  rw [← nestF_snoc t _ _ _ hj]
  exact h1
theorem nest_len {t : Tk} {st st' : List Bool} (h : nestStep t st = some st') : st'.length ≤ st.length + 1 := by
  unfold nestStep at h
  split at h
  · cases h
    rw [List.length_append, List.length_singleton]
    omega
  · split at h
    · split at h
      · cases h
        rw [List.length_dropLast]
        omega
      · cases h
    · split at h
      · split at h
        · cases h
          omega
        · cases h
      · cases h
        omega
theorem nest_is {t : Tk} {st st' : List Bool} (h : nestStep t st = some st') :
    (t.kind = 18 → st' = st ++ [false]) ∧ (t.kind = 15 → isOpen t = true → st' = st ++ [true]) ∧ (t.kind = 20 → st.getLast? = some false ∧ st' = st.dropLast) ∧
    (t.kind = 15 → isShut t = true → st.getLast? = some true ∧ st' = st.dropLast) ∧ (t.kind = 19 → st.getLast? = some false ∧ st' = st) ∧
    (t.kind ≠ 18 → isOpen t = false → t.kind ≠ 20 → isShut t = false → t.kind ≠ 19 → st' = st) := by
  have no15 : t.kind ≠ 15 → isOpen t = false ∧ isShut t = false := by
    intro q
    unfold isOpen isShut
    rw [beq_eq_false_iff_ne.2 q]
    exact ⟨rfl, rfl⟩
  have shno : isShut t = true → isOpen t = false := by
    intro e
    unfold isShut at e
    rw [Bool.and_eq_true, beq_iff_eq, beq_iff_eq] at e
    unfold isOpen
    rw [e.2]
    simp
  unfold nestStep at h
  refine ⟨fun k => ?_, fun k o => ?_, fun k => ?_, fun k o => ?_, fun k => ?_, fun k1 k2 k3 k4 k5 => ?_⟩
  · rw [k] at h
    simpa using h.symm
  · rw [k, o] at h
    simpa using h.symm
  · obtain ⟨n1, n2⟩ := no15 (by omega)
    rw [k, n1, n2] at h
    simp only [Int.reduceBEq, Bool.or_false, Bool.false_eq_true, if_false, if_true] at h
    split at h
    · rename_i q
      cases h
      exact ⟨q, rfl⟩
    · cases h
  · rw [k, shno o, o] at h
    simp only [Int.reduceBEq, Bool.or_false, Bool.or_true, Bool.false_eq_true, if_false, if_true] at h
    split at h
    · rename_i q
      cases h
      exact ⟨q, rfl⟩
    · cases h
  · obtain ⟨n1, n2⟩ := no15 (by omega)
    rw [k, n1, n2] at h
    simp only [Int.reduceBEq, Bool.or_false, Bool.false_eq_true, if_false, if_true] at h
    split at h
    · rename_i q
      cases h
      exact ⟨q, rfl⟩
    · cases h
  · rw [beq_eq_false_iff_ne.2 k1, beq_eq_false_iff_ne.2 k3, k2, k4] at h
    simp only [Bool.or_false, Bool.false_eq_true, if_false] at h
    rw [if_neg k5] at h
    cases h
    rfl
theorem last_at {st : List Bool} {b : Bool} (h : st.getLast? = some b) : ∃ m, st.length = m + 1 ∧ st[m]? = some b := by
  have hne : st ≠ [] := fun e => by rw [e] at h; cases h
  have hp := List.length_pos_iff.2 hne
  refine ⟨st.length - 1, by omega, ?_⟩
  rw [← List.getLast?_eq_getElem?]
  exact h
set_option maxRecDepth 1000000 in
set_option maxHeartbeats 8000000 in
theorem nests_walk (D : Does9) (v : Value) (l : List Tk) (w : World) (hv : TkArg w v l) :
    Calls Try.prog 7 #[v] w fun e w' => e = .returned (.bool true) ∧ Below w.heap.size w w' := by
  have C0 := Lib.hid (fun W => awake9_any D W)
  have CS := Lib.hid (fun W h => small_any v l W h)
  have HV := Lib.hid hv
  obtain ⟨p1, q1, rfl⟩ := hv.len
  by_cases hl : l.length ≤ 3000
  · have x1 : decide (l.length ≤ 3000) = true := decide_eq_true hl
    rw [x1] at CS
    have C1 := Lib.hid (fun W h => D.all (.slice p1 l.length q1) l W h hl)
    unfold AllOut at C1
    have hle := allL_len l
    have HKP := Lib.hid (nests_all l)
    have HER := Lib.hid (allL_err l)
    generalize allL l = al at *
    obtain ⟨al, ae⟩ := al
    dsimp only at C1 hle HKP HER
    have HL := Lib.hid hl
    have HLE := Lib.hid (by omega : al.length ≤ 20000)
    clear D hv hl x1 hle
    go_enter Try.func7, Try.ntmps7
    go_wp2_with (first
      | (go_at_call 9; refine (CS.out _ (HV.out.below B1.out (Nat.le_refl _))).mono ?_; rintro e w2 ⟨rfl, b2⟩; have B2 := Lib.hid (afterL B1.out b2); have V2 := Lib.hid (HV.out.below B2.out (Nat.le_refl _)); clear b2)
      | (go_at_call 10; refine (C0.out _).mono ?_; rintro e w1 ⟨rfl, b1⟩; have B1 := Lib.hid b1; clear b1))
    go_loopw [4] (fun iv wr => ∃ k : Nat, iv = .int .i64 (k : Int) ∧ wr = w2 ∧ k ≤ l.length ∧ ∀ j t, j < k → l[j]? = some t → t.kind < 18) (fun iv _ => l.length - (intOf iv).toNat)
    case atStart => exact ⟨0, rfl, rfl, by omega, fun j x hj => absurd hj (by omega)⟩
    case round =>
      obtain ⟨k, rfl, rfl, hk, hno⟩ := hrel
      have HNO := Lib.hid hno
      clear hno
      by_cases hp : k < l.length
      · obtain ⟨t, ht⟩ : ∃ t, l[k]? = some t := ⟨_, List.getElem?_eq_getElem hp⟩
        obtain ⟨ga, fa, ca, e1, ha1, ha2⟩ := V2.out.cells (by omega)
        simp only [Value.slice.injEq] at e1
        obtain ⟨rfl, -, rfl⟩ := e1
        have HA : TkIn wr ga fa l := ⟨ha1, ha2⟩
        obtain ⟨a0, a1, a2, a3⟩ := HA.four k t ht
        have HT := Lib.hid ht
        have hw5 : wrap64 ((k : Int) + 1) = (k : Int) + 1 := idx_at k l.length hp (Nat.le_trans HL.out (by decide))
        have hw4 : IntKind.i64.wrap ((k : Int) + 1) = (k : Int) + 1 := by rw [IntWalk.i64_left]; exact hw5
        have i0 : (0 : Int) ≤ (k : Int) := by omega
        have i1 : (k : Int) < (l.length : Int) := by omega
        clear HA ha1 ha2 ht
        by_cases h18 : t.kind < 18
        · have y0 : decide ((18 : Int) ≤ t.kind) = false := decide_eq_false (by omega)
          have HN2 : Hid (∀ j u, j < k + 1 → l[j]? = some u → u.kind < 18) := fun j u hj hu => by
            by_cases q : j = k
            · subst q
              rw [HT.out] at hu
              cases hu
              exact h18
            · exact HNO.out j u (by omega) hu
          clear h18
          go_wp2_with fail
          go_roundw
          case rel => exact ⟨k + 1, by go_num, by first | rfl | trivial, by omega, HN2.out⟩
          case measure => simp [intOf]; omega
        · have y0 : decide ((18 : Int) ≤ t.kind) = true := decide_eq_true (by omega)
          clear h18
          go_wp2_with fail
          go_ret
          exact ⟨rfl, B2.out⟩
      · have HP : Hid (Plain l) := plain_of (by omega) HNO.out
        have lt1 : decide ((k : Int) < (l.length : Int)) = false := decide_eq_false (by omega)
        have lt2 : decide (k < l.length) = false := decide_eq_false hp
        by_cases he : ae = 0
        · subst he
          have HK2 := Lib.hid (HKP.out HP.out rfl)
          go_wp2_with (first
            | (go_at_call 16; refine (C1.out _ V2.out).mono ?_; rintro e w3 ⟨r3, rfl, h3, b3⟩; obtain ⟨p3, q3, rfl⟩ := h3.len; have H3 := Lib.hid h3; have B3 := Lib.hid (afterL B2.out b3); clear b3 h3))
          go_loopw [7, 8] (fun bv jv wr => ∃ (j : Nat) (st : List Bool), jv = .int .i64 (j : Int) ∧ j ≤ al.length ∧ nestF (al.take j) [] = some st ∧ st.length ≤ j ∧ BoolOwn wr w3.heap.size bv st ∧ Below w3.heap.size w3 wr) (fun _ jv _ => al.length - (intOf jv).toNat)
          case atStart => exact ⟨0, [], rfl, by omega, rfl, Nat.le_refl _, BoolOwn.nil _ _, Below.refl _ _⟩
          case round =>
            obtain ⟨j, st, rfl, hj, hns, hsl, hown, hbel⟩ := hrel
            have HB := Lib.hid hbel
            have H4 := Lib.hid (H3.out.below hbel (Nat.le_refl _))
            by_cases hq : j < al.length
            · obtain ⟨t, ht⟩ : ∃ t, al[j]? = some t := ⟨_, List.getElem?_eq_getElem hq⟩
              obtain ⟨st', hs1, hs2⟩ := nest_next HK2.out hns ht
              have hlen' := nest_len hs1
              obtain ⟨n18, n15o, n20, n15s, n19, nno⟩ := nest_is hs1
              have HN := Lib.hid hs2
              have HSL := Lib.hid hsl
              have HSL' := Lib.hid (by omega : st'.length ≤ j + 1)
              obtain ⟨ga, fa, ca, e1, ha1, ha2⟩ := H4.out.cells (by omega)
              simp only [Value.slice.injEq] at e1
              obtain ⟨rfl, -, rfl⟩ := e1
              have HA : TkIn _ ga fa al := ⟨ha1, ha2⟩
              obtain ⟨a0, a1, a2, a3⟩ := HA.four j t ht
              have hw5 : wrap64 ((j : Int) + 1) = (j : Int) + 1 := idx_at j al.length hq (Nat.le_trans HLE.out (by decide))
              have hw4 : IntKind.i64.wrap ((j : Int) + 1) = (j : Int) + 1 := by rw [IntWalk.i64_left]; exact hw5
              have i0 : (0 : Int) ≤ (j : Int) := by omega
              have i1 : (j : Int) < (al.length : Int) := by omega
              have HO := Lib.hid hown
              have HJ := Lib.hid (by have := HLE.out; omega : j ≤ 20000)
              clear HA ha1 ha2 ht hs1 hs2 hns hsl hown hbel hlen'
              have z15' : t.kind ≠ 15 → (t.kind == 15) = false := fun h => beq_eq_false_iff_ne.2 h
              have z18' : t.kind ≠ 18 → (t.kind == 18) = false := fun h => beq_eq_false_iff_ne.2 h
              have z20' : t.kind ≠ 20 → (t.kind == 20) = false := fun h => beq_eq_false_iff_ne.2 h
              have z19' : t.kind ≠ 19 → (t.kind == 19) = false := fun h => beq_eq_false_iff_ne.2 h
              by_cases k18 : t.kind = 18
              · obtain rfl := n18 k18
                have z15 := z15' (by omega)
                have z18 : (t.kind == 18) = true := beq_iff_eq.2 k18
                clear n18 n15o n20 n15s n19 nno z15' z18' z20' z19' k18
                obtain ⟨po, co, rfl⟩ := HO.out.len
                go_wp2_with (first
                  | (at_builtin; refine append_bool1 w3 _ rfl _ _ rfl _ _ rfl HO.out HB.out false _ _ rfl (by have := HSL.out; have := HJ.out; omega) ?_; intro v4 w4 o4 b4; have O4 := Lib.hid o4; have B4 := Lib.hid b4; clear o4 b4))
                go_roundw
                case rel => exact ⟨j + 1, _, by go_num, by omega, HN.out, HSL'.out, O4.out, B4.out⟩
                case measure => simp [intOf]; omega
              have z18 := z18' k18
              by_cases k15 : t.kind = 15
              · have z15 : (t.kind == 15) = true := beq_iff_eq.2 k15
                have z20 := z20' (by omega)
                have z19 := z19' (by omega)
                by_cases hop : isOpen t = true
                · obtain rfl := n15o k15 hop
                  have v4 : tx t = [123] := by
                    unfold isOpen at hop
                    rw [Bool.and_eq_true] at hop
                    exact beq_iff_eq.1 hop.2
                  have v5 : (t.text.toList == [123]) = true := by rw [beq_iff_eq, ← v4, Lib.toList_data]; rfl
                  have v6 : (t.text.data.toList == [123]) = true := beq_iff_eq.2 v4
                  clear v4 hop k15
                  clear n18 n15o n20 n15s n19 nno z15' z18' z20' z19' k18
                  obtain ⟨po, co, rfl⟩ := HO.out.len
                  go_wp2_with (first
                    | (at_builtin; refine append_bool1 w3 _ rfl _ _ rfl _ _ rfl HO.out HB.out true _ _ rfl (by have := HSL.out; have := HJ.out; omega) ?_; intro v4 w4 o4 b4; have O4 := Lib.hid o4; have B4 := Lib.hid b4; clear o4 b4))
                  go_roundw
                  case rel => exact ⟨j + 1, _, by go_num, by omega, HN.out, HSL'.out, O4.out, B4.out⟩
                  case measure => simp [intOf]; omega
                · have v4 : ¬ tx t = [123] := fun e => hop (by unfold isOpen; rw [z15, e]; rfl)
                  have v5 : (t.text.toList == [123]) = false := by rw [beq_eq_false_iff_ne, Lib.toList_data]; exact v4
                  have v6 : (t.text.data.toList == [123]) = false := beq_eq_false_iff_ne.2 v4
                  clear v4
                  by_cases hsh : isShut t = true
                  · have v1 : tx t = [125] := by
                      unfold isShut at hsh
                      rw [Bool.and_eq_true] at hsh
                      exact beq_iff_eq.1 hsh.2
                    have v2 : (t.text.toList == [125]) = true := by rw [beq_iff_eq, ← v1, Lib.toList_data]; rfl
                    have v3 : (t.text.data.toList == [125]) = true := beq_iff_eq.2 v1
                    obtain ⟨hlst, rfl⟩ := n15s k15 hsh
                    obtain ⟨m, hm, hx⟩ := last_at hlst
                    obtain ⟨g, c, rfl, hgc, hcl, htk⟩ := HO.out.cells (by omega)
                    have hx := hcl m _ hx
                    obtain ⟨hw1, hw2⟩ := wrap_pred st.length (by omega) (by have := HSL.out; have := HJ.out; omega)
                    have em : st.length - 1 = m := by omega
                    rw [em] at hw1 hw2
                    have hl0 : ((st.length : Int) == 0) = false := by rw [beq_eq_false_iff_ne]; omega
                    have hl1 : (st.length == 0) = false := by rw [beq_eq_false_iff_ne]; omega
                    have j0 : (0 : Int) ≤ (m : Int) := by omega
                    have j1 : (m : Int) < (st.length : Int) := by omega
                    have j2 : (m : Int) ≤ (c : Int) := by omega
                    have j3 : (m : Int) ≤ (st.length : Int) := by omega
                    have ht2 := htk m (by omega)
                    rw [← em, ← List.dropLast_eq_take] at ht2
                    rw [em] at ht2
                    have HO2 := Lib.hid ht2
                    clear hcl htk em hm hlst ht2 hgc v1 hop hsh k15
                    clear n18 n15o n20 n15s n19 nno z15' z18' z20' z19' k18
                    go_wp2_with fail
                    go_roundw
                    case rel => exact ⟨j + 1, _, by go_num, by omega, HN.out, HSL'.out, HO2.out, HB.out⟩
                    case measure => simp [intOf]; omega
                  · have v1 : ¬ tx t = [125] := fun e => hsh (by unfold isShut; rw [z15, e]; rfl)
                    have v2 : (t.text.toList == [125]) = false := by rw [beq_eq_false_iff_ne, Lib.toList_data]; exact v1
                    have v3 : (t.text.data.toList == [125]) = false := beq_eq_false_iff_ne.2 v1
                    obtain rfl := nno k18 (Bool.eq_false_iff.2 hop) (by omega) (Bool.eq_false_iff.2 hsh) (by omega)
                    clear v1 hop hsh k15
                    clear n18 n15o n20 n15s n19 nno z15' z18' z20' z19' k18
                    obtain ⟨po, co, rfl⟩ := HO.out.len
                    go_wp2_with fail
                    go_roundw
                    case rel => exact ⟨j + 1, _, by go_num, by omega, HN.out, HSL'.out, HO.out, HB.out⟩
                    case measure => simp [intOf]; omega
              have z15 := z15' k15
              have nop : isOpen t = false := by unfold isOpen; rw [z15]; rfl
              have nsh : isShut t = false := by unfold isShut; rw [z15]; rfl
              by_cases k20 : t.kind = 20
              · have z20 : (t.kind == 20) = true := beq_iff_eq.2 k20
                obtain ⟨hlst, rfl⟩ := n20 k20
                obtain ⟨m, hm, hx⟩ := last_at hlst
                obtain ⟨g, c, rfl, hgc, hcl, htk⟩ := HO.out.cells (by omega)
                have hx := hcl m _ hx
                obtain ⟨hw1, hw2⟩ := wrap_pred st.length (by omega) (by have := HSL.out; have := HJ.out; omega)
                have em : st.length - 1 = m := by omega
                rw [em] at hw1 hw2
                have hl0 : ((st.length : Int) == 0) = false := by rw [beq_eq_false_iff_ne]; omega
                have hl1 : (st.length == 0) = false := by rw [beq_eq_false_iff_ne]; omega
                have j0 : (0 : Int) ≤ (m : Int) := by omega
                have j1 : (m : Int) < (st.length : Int) := by omega
                have j2 : (m : Int) ≤ (c : Int) := by omega
                have j3 : (m : Int) ≤ (st.length : Int) := by omega
                have ht2 := htk m (by omega)
                rw [← em, ← List.dropLast_eq_take] at ht2
                rw [em] at ht2
                have HO2 := Lib.hid ht2
                clear hcl htk em hm hlst ht2 hgc nop nsh k20 k15
                clear n18 n15o n20 n15s n19 nno z15' z18' z20' z19' k18
                go_wp2_with fail
                go_roundw
                case rel => exact ⟨j + 1, _, by go_num, by omega, HN.out, HSL'.out, HO2.out, HB.out⟩
                case measure => simp [intOf]; omega
              have z20 := z20' k20
              by_cases k19 : t.kind = 19
              · have z19 : (t.kind == 19) = true := beq_iff_eq.2 k19
                obtain ⟨hlst, rfl⟩ := n19 k19
                obtain ⟨m, hm, hx⟩ := last_at hlst
                obtain ⟨g, c, rfl, hgc, hcl, htk⟩ := HO.out.cells (by omega)
                have hx := hcl m _ hx
                obtain ⟨hw1, hw2⟩ := wrap_pred st'.length (by omega) (by have := HSL.out; have := HJ.out; omega)
                have em : st'.length - 1 = m := by omega
                rw [em] at hw1 hw2
                have hl0 : ((st'.length : Int) == 0) = false := by rw [beq_eq_false_iff_ne]; omega
                have hl1 : (st'.length == 0) = false := by rw [beq_eq_false_iff_ne]; omega
                have j0 : (0 : Int) ≤ (m : Int) := by omega
                have j1 : (m : Int) < (st'.length : Int) := by omega
                clear hcl htk em hm hlst hgc nop nsh k20 k19 k15
                clear n18 n15o n20 n15s n19 nno z15' z18' z20' z19' k18
                go_wp2_with fail
                go_roundw
                case rel => exact ⟨j + 1, _, by go_num, by omega, HN.out, HSL'.out, HO.out, HB.out⟩
                case measure => simp [intOf]; omega
              have z19 := z19' k19
              obtain rfl := nno k18 nop k20 nsh k19
              clear nop nsh k19 k20 k15
              clear n18 n15o n20 n15s n19 nno z15' z18' z20' z19' k18
              obtain ⟨po, co, rfl⟩ := HO.out.len
              go_wp2_with fail
              go_roundw
              case rel => exact ⟨j + 1, _, by go_num, by omega, HN.out, HSL'.out, HO.out, HB.out⟩
              case measure => simp [intOf]; omega
            · have lt3 : decide ((j : Int) < (al.length : Int)) = false := decide_eq_false (by omega)
              have lt4 : decide (j < al.length) = false := decide_eq_false hq
              rw [List.take_of_length_le (by omega), HK2.out] at hns
              cases hns
              obtain ⟨po, co, e5⟩ := hown.len
              have e5 : _ = Value.slice po 0 co := e5
              subst e5
              have BW := Lib.hid (B3.out.trans (HB.out.mono (B3.out.size)))
              clear hown hbel
              go_wp2_with fail
              go_ret
              exact ⟨rfl, BW.out⟩
        · have x9 : (ae != 0) = true := bne_iff_ne.2 he
          obtain rfl : al = [] := HER.out he
          clear he
          go_wp2_with (first
            | (go_at_call 16; refine (C1.out _ V2.out).mono ?_; rintro e w3 ⟨r3, rfl, h3, b3⟩; obtain ⟨p3, q3, e3⟩ := h3.len; have e3 : r3 = .slice p3 0 q3 := e3; subst e3; have B3 := Lib.hid (afterL B2.out b3); clear b3 h3))
          go_ret
          exact ⟨rfl, B3.out⟩
  · have x1 : decide (l.length ≤ 3000) = false := decide_eq_false hl
    rw [x1] at CS
    clear D hv hl x1
    go_enter Try.func7, Try.ntmps7
    go_wp2_with (first
      | (go_at_call 9; refine (CS.out _ (HV.out.below B1.out (Nat.le_refl _))).mono ?_; rintro e w2 ⟨rfl, b2⟩; have B2 := Lib.hid (afterL B1.out b2); clear b2)
      | (go_at_call 10; refine (C0.out _).mono ?_; rintro e w1 ⟨rfl, b1⟩; have B1 := Lib.hid b1; clear b1))
    go_ret
    exact ⟨rfl, B2.out⟩
end Go.Proofs.Ytmcdclhfjjplnaa.Lay
