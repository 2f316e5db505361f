/-
  The contract of package number's text: a row of limbs as decimal digits, the highest limb without noughts ahead. Conditions: at most 2^20 limbs, each below 10^9; the library's table of powers of ten stands.
-/
import Derived.Test.YtiifjegjmhbhkaaDoorNumFol
import Derived.Test.YtiifjegjmhbhkaaDoorShf
import Derived.Lib.SmallJoins
import Derived.Deep.Draws
namespace Go.Proofs.YtiifjegjmhbhkaaDoor.Num
open Go.RowKit Gly
open Go.Lib (decDigits)
set_option linter.unusedSimpArgs false
set_option linter.unusedVariables false

/-- The library's table of powers of ten, by the name that the rows list it under. -/
def tabN : String := (Rows.numberScansRow.laid.map fun p => p.1).getD 2 ""
def Tab (w : World) : Prop := Lib.TabIs Tryd.prog w tabN .u64 Lib.pow10Tab
theorem tab_named : ∃ g, Tryd.prog.globalNamed tabN = some g := by
  cases h : Tryd.prog.globalNamed tabN with
  | none => exact absurd h (by decide +kernel)
  | some g => exact ⟨g, rfl⟩
theorem Tab.below {w w' : World} {B : Nat} (h : Tab w) (hb : Below B w w') (hB : w.heap.size ≤ B) : Tab w' := by
  obtain ⟨g, hg⟩ := tab_named
  exact Go.Joins.tab_stays hg h hb hB

theorem builder_kept {T e : TypeId} {B b : Nat} {bs : List Value} {w w' : World} (h : Lib.IsBuilderF T e B b bs w)
    (hk : ∀ (k : Nat) (c : Array Value) (t : TypeId) (fz : Nat × Nat), w.heap[k]? = some (Obj.cells c t fz) → (t = T ∨ t = e) → w'.heap[k]? = some (Obj.cells c t fz)) : Lib.IsBuilderF T e B b bs w' := by
  have key : ∀ p, Lib.BuilderAtF T e B b p bs w → Lib.BuilderAtF T e B b p bs w' := by
    rintro p ⟨hB, v, hb, hown, hne⟩
    refine ⟨hB, v, hk _ _ _ _ hb (.inl rfl), ⟨hown.1, ?_⟩, hne⟩
    rcases hown.2 with hn | ⟨g, cap, cur, fz, rfl, h1, h2, h3⟩
    · exact .inl hn
    · exact .inr ⟨g, cap, cur, fz, rfl, h1, hk _ _ _ _ h2 (.inr rfl), h3⟩
  exact h.elim (fun x => .inl (key _ x)) (fun x => .inr (key _ x))
theorem builder_below {T e : TypeId} {B b : Nat} {bs : List Value} {w w' : World} (h : Lib.IsBuilderF T e B b bs w) (hb : Below w.heap.size w w') : Lib.IsBuilderF T e B b bs w' :=
  builder_kept h fun k _ _ _ hk _ => (hb.block k (lt_of_block hk)).trans hk
theorem wstr_any (B b : Nat) (bs : List UInt8) (s : ByteArray) (w : World) (h : Lib.IsBuilderF 63 5 B b (Lib.byteCells bs) w) (hlen : bs.length + s.size ≤ 140737488355328) (hBw : B ≤ w.heap.size) :
    Calls Tryd.prog 45 #[.pointer (some ⟨b, 0, none⟩), .string s] w fun e w' => e = .returned (.tuple #[.int .i64 s.size, .nilIface]) ∧ Lib.IsBuilderF 63 5 B b (Lib.byteCells (bs ++ s.data.toList)) w' ∧ Below B w w' := by
  have L : Lays.n166 Tryd.prog Tryd.lays105_ren := { Tryd.lays105 with }
  refine (Any.Builder_WriteString_k L Tryd.Builder_Extra_105 B b (Lib.byteCells bs) s w h (by rw [Lib.byteCells_length]; exact hlen) hBw).mono ?_
  rintro e w' ⟨rfl, h1, h2, h3⟩
  refine ⟨rfl, ?_, h2⟩
  rw [Lib.byteCells_append, ← Lib.strCells_eq]
  exact .inr h1
theorem bstr_any (B b : Nat) (l : List UInt8) (w : World) (h : Lib.IsBuilderF 63 5 B b (Lib.byteCells l) w) (hBw : B ≤ w.heap.size) :
    Calls Tryd.prog 47 #[.pointer (some ⟨b, 0, none⟩)] w fun e w' => e = .returned (.string ⟨l.toArray⟩) ∧ Below B w w' := by
  refine (Any.Builder_String_any_k Tryd.lays169 Tryd.Builder_Extra_169 B b l w h hBw).mono ?_
  rintro e w' ⟨rfl, _, h2, _⟩
  exact ⟨rfl, h2⟩
theorem repeat_any (n : Nat) (hn : n ≤ 1000) (w : World) :
    Calls Tryd.prog 46 #[.string ⟨#[48]⟩, .int .i64 (n : Int)] w fun e w' => e = .returned (.string ⟨(List.replicate n 48).toArray⟩) ∧ Below w.heap.size w w' := by
  have h := Any.strings_Repeat Tryd.lays105 Tryd.Builder_Extra_105 ⟨#[48]⟩ n w (by omega) (by have : (⟨#[48]⟩ : ByteArray).size = 1 := rfl; rw [this]; omega)
  have e : ∀ k, Lib.repeatL (⟨#[48]⟩ : ByteArray).data.toList k = List.replicate k 48 := by
    intro k
    induction k with
    | zero => rfl
    | succ k ih =>
      rw [Lib.repeatL, ih]
      rfl
  rw [e] at h
  exact h
theorem grow_below (w : World) (k : Nat) (os : Array Obj) : Below w.heap.size w (Go.Sort.grow (w.drewN k) os) := by
  refine ⟨rfl, rfl, rfl, ?_, ?_⟩
  · unfold Go.Sort.grow World.drewN
    dsimp only
    rw [Array.size_append]
    omega
  · intro j hj
    unfold Go.Sort.grow World.drewN
    dsimp only
    rw [Array.getElem?_append_left hj]
theorem itoa_any (n : Nat) (hn : n < 1000000000) (w : World) (ht : Tab w) :
    Calls Tryd.prog 44 #[.int .i64 (n : Int)] w fun e w' => e = .returned (.string ⟨(decDigits n).toArray⟩) ∧ Below w.heap.size w w' := by
  refine (Any.strconv_Itoa Tryd.laysM171 (n : Int) (by omega) (by omega) w ht).mono ?_
  rintro e w' ⟨rfl, k, os, rfl⟩
  exact ⟨by rw [Lib.itoa_nonneg], grow_below w k os⟩
theorem ints_below {w w' : World} {B g n cap : Nat} {xs : List Nat} (h : w.ownsRow B 3 1 (.slice (some ⟨g, 0, none⟩) n cap) n (intC xs)) (hb : Below w.heap.size w w') (k : Nat) (hk : k < n) (hx : k < xs.length) : w'.cell? ⟨g, k, none⟩ = some (.int .i64 ((xs[k] : Nat) : Int)) :=
  (hb.cell (p := ⟨g, k, none⟩) (World.ownsRow.lt h g rfl).2).trans (Ints.at' h k hk hx)

/-- The text of the limbs that are passed, the highest first. -/
def passed : List Nat → List UInt8
  | [] => []
  | h :: t => decDigits h ++ tail9 t
theorem tail9_snoc : ∀ (t : List Nat) (x : Nat), tail9 (t ++ [x]) = tail9 t ++ pad9 x
  | [], x => by simp [tail9]
  | y :: t, x => by
    rw [List.cons_append, tail9, tail9_snoc t x, tail9, List.append_assoc]
theorem passed_snoc : ∀ (ys : List Nat) (x : Nat), ys ≠ [] → passed (ys ++ [x]) = passed ys ++ pad9 x
  | [], _, h => absurd rfl h
  | y :: t, x, _ => by
    rw [List.cons_append, passed, tail9_snoc, passed, List.append_assoc]
theorem passed_len : ∀ (ys : List Nat), (∀ x ∈ ys, x < 1000000000) → (passed ys).length ≤ 9 * ys.length
  | [], _ => Nat.zero_le _
  | y :: t, h => by
    have h1 := (pad9_len y (h y (by simp))).2
    have h2 := tail9_len t (fun z hz => h z (by simp [hz]))
    rw [passed, List.length_append, List.length_cons]
    omega
theorem text_passed (xs : List Nat) (h : xs ≠ []) : textL xs = passed xs.reverse := by
  unfold textL
  cases hr : xs.reverse with
  | nil => exact absurd (List.reverse_eq_nil_iff.1 hr) h
  | cons y t => rfl
theorem take_snoc (ys : List Nat) (k : Nat) (h : k < ys.length) : ys.take (k + 1) = ys.take k ++ [ys[k]] := by
  rw [List.take_succ_eq_append_getElem h]
theorem text_nil (w : World) : Calls Tryd.prog 30 #[.slice none 0 0] w fun e w' => e = .returned (.string ⟨#[48]⟩) ∧ Below w.heap.size w w' := by
  go_enter Tryd.func30, Tryd.ntmps30
  go_wp2_with fail
  go_ret
  exact ⟨rfl, Below.refl _ _⟩
theorem text_empty (g cap : Nat) (w : World) : Calls Tryd.prog 30 #[.slice (some ⟨g, 0, none⟩) 0 cap] w fun e w' => e = .returned (.string ⟨#[48]⟩) ∧ Below w.heap.size w w' := by
  go_enter Tryd.func30, Tryd.ntmps30
  go_wp2_with fail
  go_ret
  exact ⟨rfl, Below.refl _ _⟩

set_option maxHeartbeats 1000000 in
set_option maxRecDepth 100000 in
theorem text_row (B g cap n : Nat) (xs : List Nat) (hn : xs.length = n) (hpos : 0 < n) (hx : ∀ x ∈ xs, x < 1000000000) (hl : n ≤ 1048576) (w : World) (ht : Tab w)
    (own : w.ownsRow B 3 1 (.slice (some ⟨g, 0, none⟩) n cap) n (intC xs)) :
    Calls Tryd.prog 30 #[.slice (some ⟨g, 0, none⟩) n cap] w fun e w' => e = .returned (.string ⟨(passed xs.reverse).toArray⟩) ∧ Below w.heap.size w w' := by
  have OWN := Lib.hid own
  have HX := Lib.hid hx
  have HN := Lib.hid hn
  have HT := Lib.hid ht
  have hn0 : ((n : Int) == 0) = false := by rw [beq_eq_false_iff_ne]; omega
  have hpl : Hid (∀ k, (passed (xs.reverse.take k)).length ≤ 9 * n) := fun k => by
    have := passed_len (xs.reverse.take k) (fun x hx => HX.out x (by have := List.mem_of_mem_take hx; rwa [List.mem_reverse] at this))
    rw [List.length_take, List.length_reverse, HN.out] at this
    omega
  clear own hx hn ht
  go_enter Tryd.func30, Tryd.ntmps30
  go_wp2_with fail
  go_loopw [11] (fun iv wr => ∃ k : Nat, iv = .int .i64 (k : Int) ∧ k ≤ n ∧ Lib.IsBuilderF 63 5 w.heap.size w.heap.size (Lib.byteCells (passed (xs.reverse.take k))) wr ∧ Below w.heap.size w wr) (fun iv _ => n - (intOf iv).toNat)
  case atStart => exact ⟨0, rfl, Nat.zero_le _, Lib.IsBuilderF.of (Lib.fresh_isBuilder 63 5 w), (Below.refl _ _).alloc (Nat.le_refl _) _⟩
  case round =>
    obtain ⟨k, rfl, hk, hbd, hbw⟩ := hrel
    have BD := Lib.hid hbd
    have BW := Lib.hid hbw
    clear hbd hbw
    by_cases hkn : k < n
    · obtain ⟨y, hy⟩ : ∃ y, xs.reverse[k]? = some y := ⟨_, List.getElem?_eq_getElem (by rw [List.length_reverse, HN.out]; exact hkn)⟩
      have hy1 : y < 1000000000 := HX.out y (by have := List.mem_of_getElem? hy; rwa [List.mem_reverse] at this)
      have HY : Hid (xs.reverse.take (k + 1) = xs.reverse.take k ++ [y]) := by
        unfold Hid
        rw [List.take_add_one, hy]
        rfl
      have HC : Hid (wr.cell? ⟨g, n - 1 - k, none⟩ = some (.int .i64 (y : Int))) := by
        have h1 := ints_below OWN.out BW.out (n - 1 - k) (by omega) (by rw [HN.out]; omega)
        unfold Hid
        rw [h1]
        have h2 := hy
        rw [List.getElem?_reverse (by rw [HN.out]; exact hkn), HN.out, List.getElem?_eq_getElem (by rw [HN.out]; omega)] at h2
        injection h2 with h2
        rw [h2]
      clear hy
      have hpl9 := (pad9_len y hy1).2
      have hd0 := (dec_digits y).2.1
      have PL := Lib.hid hpl9
      have HZ : Hid ((⟨(decDigits y).toArray⟩ : ByteArray).size = (decDigits y).length) := by unfold Hid; rw [Lib.size_eq]
      clear hd0
      rcases Nat.eq_zero_or_pos k with h0 | h0
      · subst h0
        have hcell : wr.cell? ⟨g, n - 1, none⟩ = some (.int .i64 (y : Int)) := HC.out
        have I := Lib.hid (itoa_any y hy1 wr (HT.out.below BW.out (Nat.le_refl _)))
        go_wp2_with fail
        refine I.out.mono ?_
        rintro e W4 ⟨rfl, bb4⟩
        have BD4 := Lib.hid (builder_below BD.out bb4)
        have BW4 := Lib.hid (BW.out.trans (bb4.mono BW.out.size))
        clear bb4 hcell
        go_wp2_with fail
        refine (wstr_any w.heap.size w.heap.size _ _ _ BD4.out (by have := hpl.out 0; rw [HZ.out]; have := PL.out; omega) BW4.out.size).mono ?_
        rintro e W6 ⟨rfl, bd6, bb6⟩
        have BD6 := Lib.hid bd6
        have BW6 := Lib.hid (BW4.out.trans bb6)
        clear bd6 bb6
        go_wp2_with fail
        go_roundw
        case rel =>
          refine ⟨0 + 1, by go_num, by omega, ?_, BW6.out⟩
          have hb := BD6.out
          rw [List.take_zero, passed, List.nil_append] at hb
          rw [HY.out, List.take_zero, List.nil_append, passed, tail9, List.append_nil]
          exact hb
        case measure => simp [intOf]; omega
      · have hcell := HC.out
        have I := Lib.hid (itoa_any y hy1 wr (HT.out.below BW.out (Nat.le_refl _)))
        have hkp : decide ((0 : Int) < (k : Int)) = true := decide_eq_true (by omega)
        obtain ⟨z, hz⟩ : ∃ z : Nat, 9 - (decDigits y).length = z := ⟨_, rfl⟩
        have hzz : (9 : Int) - (((decDigits y).length : Nat) : Int) = (z : Int) := by omega
        have ZZ := Lib.hid hz
        have HR : Hid (∀ W, Calls Tryd.prog 46 #[.string ⟨#[48]⟩, .int .i64 ((9 : Int) - (((decDigits y).length : Nat) : Int))] W fun e w' => e = .returned (.string ⟨(List.replicate z 48).toArray⟩) ∧ Below W.heap.size W w') := fun W => by
          rw [hzz]
          exact repeat_any z (by omega) W
        have NE : Hid (xs.reverse.take k ≠ []) := by
          unfold Hid
          intro h9
          have := congrArg List.length h9
          rw [List.length_take, List.length_reverse, HN.out] at this
          simp at this
          omega
        clear hz hzz
        go_wp2_with fail
        refine I.out.mono ?_
        rintro e W4 ⟨rfl, bb4⟩
        have BD4 := Lib.hid (builder_below BD.out bb4)
        have BW4 := Lib.hid (BW.out.trans (bb4.mono BW.out.size))
        clear bb4 hcell
        go_wp2_with fail
        refine (HR.out _).mono ?_
        rintro e W5 ⟨rfl, bb5⟩
        have BD5 := Lib.hid (builder_below BD4.out bb5)
        have BW5 := Lib.hid (BW4.out.trans (bb5.mono BW4.out.size))
        clear bb5
        go_wp2_with fail
        refine (wstr_any w.heap.size w.heap.size _ _ _ BD5.out (by have := hpl.out k; rw [Lib.size_eq]; have := PL.out; have := ZZ.out; simp; omega) BW5.out.size).mono ?_
        rintro e W6 ⟨rfl, bd6, bb6⟩
        have BD6 := Lib.hid bd6
        have BW6 := Lib.hid (BW5.out.trans bb6)
        clear bd6 bb6
        go_wp2_with fail
        refine (wstr_any w.heap.size w.heap.size _ _ _ BD6.out (by have := hpl.out k; rw [HZ.out]; have := PL.out; have := ZZ.out; simp; omega) BW6.out.size).mono ?_
        rintro e W7 ⟨rfl, bd7, bb7⟩
        have BD7 := Lib.hid bd7
        have BW7 := Lib.hid (BW6.out.trans bb7)
        clear bd7 bb7
        go_wp2_with fail
        go_roundw
        case rel =>
          refine ⟨k + 1, by go_num, by omega, ?_, BW7.out⟩
          have hb := BD7.out
          rw [HY.out, passed_snoc _ _ NE.out]
          unfold pad9
          rw [ZZ.out, ← List.append_assoc]
          exact hb
        case measure => simp [intOf]; omega
    · obtain rfl : k = n := by omega
      have PF : Hid (xs.reverse.take k = xs.reverse) := List.take_of_length_le (by rw [List.length_reverse, HN.out]; omega)
      go_wp2_with fail
      refine (bstr_any w.heap.size w.heap.size _ _ BD.out BW.out.size).mono ?_
      rintro e W5 ⟨rfl, bb5⟩
      have BL5 := Lib.hid (BW.out.trans bb5)
      clear bb5
      go_wp2_with fail
      go_ret
      exact ⟨by rw [PF.out] <;> rfl, BL5.out⟩
theorem text_any (B : Nat) (v : Value) (xs : List Nat) (hx : ∀ x ∈ xs, x < 1000000000) (hl : xs.length ≤ 1048576) (w : World) (ht : Tab w) (own : Ints w B v xs) :
    Calls Tryd.prog 30 #[v] w fun e w' => e = .returned (.string ⟨(textL xs).toArray⟩) ∧ Below w.heap.size w w' := by
  rcases own.shape with ⟨rfl, rfl⟩ | ⟨g, cap, rfl, hg, -⟩
  · exact text_nil w
  · by_cases h0 : xs = []
    · subst h0
      exact text_empty g cap w
    · rw [text_passed xs h0]
      exact text_row B g cap xs.length xs rfl (List.length_pos_iff.2 h0) hx hl w ht own
end Go.Proofs.YtiifjegjmhbhkaaDoor.Num
