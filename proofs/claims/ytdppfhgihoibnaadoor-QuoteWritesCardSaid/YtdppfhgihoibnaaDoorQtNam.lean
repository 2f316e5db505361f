/-
  The contracts of package quote's named and escape. Conditions: the string has at most 2^50 bytes; the program's list of names stands.
-/
import Derived.Test.YtdppfhgihoibnaaDoorQtEsc
import Derived.Laws.Rows
import Derived.Lib.LaidTab
namespace Go.Proofs.YtdppfhgihoibnaaDoor.Qt
open Go.RowKit Gly
open Wrd (rn wd)
set_option linter.unusedSimpArgs false
set_option linter.unusedVariables false

/-- The program's list of names, by the name that the rows list it under. -/
def namN : String := (Rows.quoteScansRow.laid.map fun p => p.1).getD 3 ""
def namCs : Array Value := (namesL.map fun x => Value.string ⟨x.toArray⟩).toArray
def Nam (w : World) : Prop := w.var? Tryd.prog namN = some namCs
theorem nam_named : Tryd.prog.globalNamed namN = some 1 := by kernel_rfl
theorem Nam.below {w w' : World} {B : Nat} (h : Nam w) (hb : Below B w w') (hB : w.heap.size ≤ B) : Nam w' := Go.Joins.var_stays nam_named h hb hB
theorem Nam.row {w : World} (h : Nam w) : ∃ t fr, w.heap[1]? = some (.cells namCs t fr) := by
  unfold Nam World.var? at h
  rw [nam_named] at h
  simp only [Option.bind_some] at h
  split at h
  · rename_i cs t fr hc
    injection h with h
    subst h
    exact ⟨t, fr, hc⟩
  · cases h
/-- Both tables. -/
def Tab (w : World) : Prop := Pow w ∧ Nam w
theorem Tab.below {w w' : World} {B : Nat} (h : Tab w) (hb : Below B w w') (hB : w.heap.size ≤ B) : Tab w' := ⟨h.1.below hb hB, h.2.below hb hB⟩

theorem beg_prefix (m L : List UInt8) : Lib.hasPrefix L m = beg m L := by
  unfold Lib.hasPrefix beg
  rw [Bool.eq_iff_iff, List.isPrefixOf_iff_prefix, beq_iff_eq, List.prefix_iff_eq_take]
  exact eq_comm
theorem run_index_in (w : World) (t e : TypeId) (n : Nat) (cs : Array Value) (i : Nat) (v : Value) (h : Tryd.prog.underlying t = some (.array n e)) (hc : (Go.sizeOf e).run Tryd.prog w = .ok 1 w) (hg : (isAgg e).run Tryd.prog w = .ok false w) (hi : i < n) (hv : cs[i]? = some v) :
    (Instr.index t (.agg cs) (.int .i64 (i : Int))).run Tryd.prog w = .ok v w := by
  have h1 : (0 : Int) ≤ (i : Int) ∧ (i : Int) < (n : Int) := by omega
  simp [Instr.index, run_underlying h, asIntOf, h1, go_sem, hv, hg, hc, hi]

theorem nam_size : namCs.size = 33 := by decide +kernel
theorem nam_at : ∀ k, k < 33 → namCs[k]? = some (.string ⟨(namesL.getD k []).toArray⟩) := by
  intro k hk
  unfold namCs
  have hl : namesL.length = 33 := rfl
  rw [List.getElem?_toArray, List.getElem?_map, List.getElem?_eq_getElem (by omega), List.getD_eq_getElem?_getD, List.getElem?_eq_getElem (by omega)]
  rfl
theorem nam_len : ∀ k, k < 33 → (namesL.getD k []).length ≤ 3 := by decide +kernel
theorem nameG_step (k : Nat) (hk : k < 33) (L : List UInt8) (acc : Nat × Nat) : nameG (namesL.drop k) k L acc = nameG (namesL.drop (k + 1)) (k + 1) L (if acc.2 < (namesL.getD k []).length ∧ beg (namesL.getD k []) L = true then (k, (namesL.getD k []).length) else acc) := by
  have hl : namesL.length = 33 := rfl
  rw [List.drop_eq_getElem_cons (by omega), nameG, List.getD_eq_getElem?_getD, List.getElem?_eq_getElem (by omega)]
  rfl
theorem del_eq (t : ByteArray) (w : World) : Calls Tryd.prog 89 #[.string t, .string ⟨#[68, 69, 76]⟩] w fun e w' => e = .returned (.bool (beg delL t.data.toList)) ∧ w = w' := by
  have := prefix_any t ⟨#[68, 69, 76]⟩ w
  rw [beg_prefix] at this
  exact this

set_option maxHeartbeats 1000000 in
set_option maxRecDepth 100000 in
theorem named_any (t : ByteArray) (hs : t.size ≤ 1125899906842624) (w : World) (hN : Nam w) :
    Calls Tryd.prog 73 #[.string t] w fun e w' => e = .returned (.tuple #[.int .i64 ((nameE t.data.toList).1 : Int), .int .i64 ((nameE t.data.toList).2 : Int)]) ∧ w = w' := by
  have c1 := fun W => del_eq t W
  obtain ⟨z, hz⟩ : ∃ z, nameE t.data.toList = z := ⟨_, rfl⟩
  rw [hz]
  unfold nameE at hz
  cases hb : beg delL t.data.toList with
  | true =>
    rw [hb] at c1
    rw [if_pos hb] at hz
    subst hz
    have C1 := Lib.hid c1
    clear c1 hb hN
    go_enter Tryd.func73, Tryd.ntmps73
    go_wp2_with fail
    refine (C1.out _).mono ?_
    rintro e w1 ⟨rfl, rfl⟩
    go_wp2_with fail
    go_ret2
    exact ⟨rfl, rfl⟩
  | false =>
    rw [hb] at c1
    rw [if_neg (by rw [hb]; decide)] at hz
    have HZ := Lib.hid hz
    have C1 := Lib.hid c1
    obtain ⟨ty, fr, hrow⟩ := hN.row
    obtain ⟨arr, harr⟩ : ∃ arr, namCs = arr := ⟨_, rfl⟩
    have hat := nam_at
    have hsz := nam_size
    rw [harr] at hrow hat hsz
    have hat2 := Lib.hid hat
    have hix : ∀ (k : Nat), k < 33 → ∀ W, (Instr.index 99 (.agg arr) (.int .i64 (k : Int))).run Tryd.prog W = .ok (.string ⟨(namesL.getD k []).toArray⟩) W := fun k hk W =>
      run_index_in W _ _ 33 arr k _ Tryd.underlying99 (Tryd.sizeOf9 W) (Tryd.isAgg9 W) hk (hat2.out k hk)
    have HROW := Lib.hid hrow
    have HSZ : Hid ((Tryd.prog.info? 99).map (·.size) = some arr.size) := by
      unfold Hid
      rw [hsz]
      kernel_rfl
    have HIX := Lib.hid hix
    clear c1 hb hN hz hrow hat hsz harr hat2 hix
    go_enter Tryd.func73, Tryd.ntmps73
    go_wp2_with fail
    refine (C1.out _).mono ?_
    rintro e w1 ⟨rfl, rfl⟩
    go_wp2_with (refine wpList_load_row rfl 99 _ rfl 1 rfl ty arr fr _ HROW.out Tryd.underlying99 rfl HSZ.out ?_)
    go_loop [2, 3, 9] (fun a b i => ∃ (x y k : Nat), a = .int .i64 (x : Int) ∧ b = .int .i64 (y : Int) ∧ i = .int .i64 (k : Int) ∧ k ≤ 33 ∧ nameG (namesL.drop k) k t.data.toList (x, y) = z) (fun _ _ i => 33 - (intOf i).toNat)
    case atStart => exact ⟨0, 0, 0, rfl, rfl, rfl, by omega, HZ.out⟩
    case round =>
      obtain ⟨x, y, k, rfl, rfl, rfl, hk0, hq⟩ := hrel
      have HQ := Lib.hid hq
      clear hq
      by_cases hk : k < 33
      · have hi := HIX.out k hk w
        have hst := nameG_step k hk t.data.toList (x, y)
        rw [HQ.out] at hst
        have c2 : ∀ W, Calls Tryd.prog 89 #[.string t, .string ⟨(namesL.getD k []).toArray⟩] W fun e w' => e = .returned (.bool (beg (namesL.getD k []) t.data.toList)) ∧ W = w' := fun W => by
          have := prefix_any t ⟨(namesL.getD k []).toArray⟩ W
          rw [beg_prefix] at this
          exact this
        have hln := nam_len k hk
        generalize namesL.getD k [] = m at *
        have hml : ((⟨m.toArray⟩ : ByteArray).size) = m.length := by rw [Lib.size_eq]
        generalize (⟨m.toArray⟩ : ByteArray) = mb at *
        have x1 : decide ((k : Int) < 33) = true := decide_eq_true (by omega)
        by_cases hy : y < m.length
        · have x2 : decide ((y : Int) < (mb.size : Int)) = true := decide_eq_true (by omega)
          have x3 : decide (y < mb.size) = true := decide_eq_true (by omega)
          cases hbg : beg m t.data.toList with
          | true =>
            simp only [hbg] at c2
            rw [if_pos ⟨hy, hbg⟩] at hst
            have HST := Lib.hid hst
            have C2 := Lib.hid c2
            have HML := Lib.hid hml
            clear hst c2 hbg hml hy
            go_wp2_with fail
            refine (C2.out _).mono ?_
            rintro e w1 ⟨rfl, rfl⟩
            go_wp2_with fail
            go_round
            case rel => exact ⟨k, m.length, k + 1, rfl, by rw [HML.out], by go_num, by omega, HST.out.symm⟩
            case measure => simp [intOf]; omega
          | false =>
            simp only [hbg] at c2
            rw [if_neg (fun q => by rw [hbg] at q; cases q.2)] at hst
            have HST := Lib.hid hst
            have C2 := Lib.hid c2
            clear hst c2 hbg hml hy
            go_wp2_with fail
            refine (C2.out _).mono ?_
            rintro e w1 ⟨rfl, rfl⟩
            go_wp2_with fail
            go_round
            case rel => exact ⟨x, y, k + 1, rfl, rfl, by go_num, by omega, HST.out.symm⟩
            case measure => simp [intOf]; omega
        · have x2 : decide ((y : Int) < (mb.size : Int)) = false := decide_eq_false (by omega)
          have x3 : decide (y < mb.size) = false := decide_eq_false (by omega)
          rw [if_neg (fun q => hy q.1)] at hst
          have HST := Lib.hid hst
          clear hst c2 hml hy
          go_wp2_with fail
          go_round
          case rel => exact ⟨x, y, k + 1, rfl, rfl, by go_num, by omega, HST.out.symm⟩
          case measure => simp [intOf]; omega
      · obtain rfl : k = 33 := by omega
        have hq := HQ.out
        rw [List.drop_eq_nil_of_le (by decide), nameG] at hq
        subst hq
        go_wp2_with fail
        go_ret2
        exact ⟨rfl, rfl⟩
end Go.Proofs.YtdppfhgihoibnaaDoor.Qt
