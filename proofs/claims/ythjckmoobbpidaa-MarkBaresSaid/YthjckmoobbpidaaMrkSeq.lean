/-
  The program's own mark.each: a function that hands a loop's body each token of a slice, and a pointer to the token ahead of it. Condition: at most 2^40 tokens.
-/
import Derived.RangeFuncNested
import Derived.RangeFuncLeaves
import Derived.Shelf.Abstract
import Derived.OwnWalkIn
import Derived.TacticsInMore
import Derived.LoopNIn
import Derived.LoopIn
import Derived.Test.YthjckmoobbpidaaMrkCod
namespace Go.Proofs.Ythjckmoobbpidaa.Mrk
open Tks Go.RowKit Go.Shelf
set_option linter.unusedSimpArgs false
set_option linter.unusedVariables false

attribute [local go_sem] Oper.semAt_some

def tkV (t : Tk) : Value := .agg #[.int .i64 t.kind, .string t.text, .int .i64 t.line, .int .i64 t.col]
/-- The pointer to the token ahead. -/
def pv (b off : Nat) : Nat → Value
  | 0 => .pointer none
  | k + 1 => .pointer (some ⟨b, off + k * 4, none⟩)
/-- What a round that goes on keeps: all that lay ahead of the caller, and the variable that the slice lies in. -/
def KeepB (n₀ Bs : Nat) (W W' : World) : Prop := Below n₀ W W' ∧ ∀ v, Boxed W Bs 26 v → Boxed W' Bs 26 v
theorem KeepB.refl {n₀ Bs : Nat} (W : World) : KeepB n₀ Bs W W := ⟨Below.refl _ _, fun _ h => h⟩
theorem KeepB.trans {n₀ Bs : Nat} {A B C : World} (h : KeepB n₀ Bs A B) (k : KeepB n₀ Bs B C) : KeepB n₀ Bs A C := ⟨h.1.trans k.1, fun v q => k.2 v (h.2 v q)⟩
theorem KeepB.put {n₀ Bs : Nat} {w : World} (hn : n₀ ≤ w.heap.size) (W : World) (l : Nat) (o o' : Obj) (hl : w.heap.size ≤ l) (h : W.heap[l]? = some o) (hc : o.isCells = false) (hw : o.isWalk = false) : KeepB n₀ Bs W (W.putObj l o') :=
  ⟨belowK_b hn W l o o' hl h hc hw, fun v q => q.kept (grownBy_putObj' W l o') (fun e => by
    cases e
    rw [show W.heap[Bs]? = _ from q] at h
    cases h
    cases hc)⟩
theorem take_fin {n k : Nat} (h : k < n) : (List.finRange n).take (k + 1) = (List.finRange n).take k ++ [⟨k, h⟩] := by
  rw [List.take_add_one]
  congr 1
  simp [h]
theorem take_fin_len {n k : Nat} (h : k ≤ n) : ((List.finRange n).take k).length = k := by
  rw [List.length_take, List.length_finRange]
  omega
set_option maxRecDepth 100000 in
set_option maxHeartbeats 4000000 in
theorem each1_in (F : Fence) (n : Nat) (h0 : F.fn 23) (hro : F.round = none) (hn : 1 ≤ n) (lp Bs n₀ b off cap : Nat) (l : List Tk) (hm : l.length ≤ 3518437208880) (hb : b < n₀) (J Jx : List (Fin l.length) → World → Prop)
    (hY : ∀ pre x W, J pre W → pre.length < l.length → YieldAt F (n - 1) Try.prog lp #[tkV l[x], pv b off x.1] W fun e W' =>
      (e = .returned (.bool true) ∧ J (pre ++ [x]) W' ∧ KeepB n₀ Bs W W') ∨ (e = .returned (.bool false) ∧ Jx (pre ++ [x]) W'))
    (W : World) (hBs : Boxed W Bs 26 (.slice (some ⟨b, off, none⟩) l.length cap)) (hc : TkIn W b off l) (hJ0 : J [] W) :
    CallsIn F n Try.prog 23 #[.func (.yield lp) #[] #[], .pointer (some ⟨Bs, 0, none⟩)] W fun e W' => (∃ v, e = .returned v) ∧
      ((∃ ys, ys = List.finRange l.length ∧ J ys W') ∨ (∃ pre, True ∧ Jx pre W')) := by
  refine callsIn_of_wp Try.func23 rfl h0 ?_ hro
  simp only [Try.ntmps23, List.size_toArray, List.length_cons, List.length_nil, Nat.reduceAdd, Nat.reduceSub, Array.replicate_succ, Array.replicate_zero, List.push_toArray, List.append_toArray, List.nil_append, List.cons_append]
  have hBc := hBs.cell
  gi_wp2
  gi_loopw [3, 7] (fun p i wr => ∃ k : Nat, k ≤ l.length ∧ i = .int .i64 k ∧ p = pv b off k ∧ J ((List.finRange l.length).take k) wr ∧ KeepB n₀ Bs W wr)
    (fun _ i _ => l.length - (intOf i).toNat)
  case atStart => exact ⟨0, Nat.zero_le _, rfl, rfl, hJ0, KeepB.refl _⟩
  case round =>
    obtain ⟨k, hk, rfl, rfl, hJs, hnx⟩ := hrel
    by_cases hlt : k < l.length
    · obtain ⟨fn, tmps, assign, body, hy, hR⟩ := hY _ ⟨k, hlt⟩ wr hJs (by rw [take_fin_len hk]; exact hlt)
      dsimp only [tkV, Fin.getElem_fin] at hy
      have hB2 := (hnx.2 _ hBs).cell
      have ht : l[k]? = some l[k] := List.getElem?_eq_getElem hlt
      have hc2 : TkIn wr b off l := ⟨Nat.lt_of_lt_of_le hc.1 hnx.1.size, fun i t ht k hk => (World.cell?_of_block (hnx.1.block b hb)).trans (hc.2 i t ht k hk)⟩
      obtain ⟨a0, a1, a2, a3⟩ := hc2.four k _ ht
      have hw4 : IntKind.i64.wrap ((k : Int) + 1) = (k : Int) + 1 := by rw [IntWalk.i64_left]; exact idx_at k l.length hlt hm
      have hw5 : wrap64 ((k : Int) + 1) = (k : Int) + 1 := idx_at k l.length hlt hm
      have i0 : (0 : Int) ≤ (k : Int) := by omega
      have i1 : (k : Int) < (l.length : Int) := by omega
      obtain ⟨q, hq⟩ : ∃ q, pv b off k = q := ⟨_, rfl⟩
      rw [hq] at hy ⊢
      clear ht
      gi_wp2
      refine hR.mono ?_
      rintro e W3 (⟨rfl, hJ3, hk3⟩ | ⟨rfl, hJx3⟩)
      · have hB3 := (hk3.2 _ (hnx.2 _ hBs)).cell
        gi_wp2
        go_roundw
        case rel => exact ⟨k + 1, by omega, by simp, rfl, by rw [take_fin hlt]; exact hJ3, hnx.trans hk3⟩
        case measure => simp [intOf]; omega
      · gi_wp2
        refine bodyPost_ret (results_none rfl _ _ _) rfl ?_
        exact ⟨⟨_, rfl⟩, .inr ⟨_, trivial, hJx3⟩⟩
    · obtain rfl : k = l.length := by omega
      gi_wp2
      go_end0
      exact ⟨⟨_, rfl⟩, .inl ⟨_, by rw [List.take_of_length_le (by simp)], hJs⟩⟩
set_option maxRecDepth 100000 in
set_option maxHeartbeats 1000000 in
/-- .. at a slice of none: no round. -/
theorem each0_in (F : Fence) (n : Nat) (h0 : F.fn 23) (hro : F.round = none) (lp Bs cap : Nat) (a : Option Addr) {α : Type} (J : List α → World → Prop) (W : World) (hBs : Boxed W Bs 26 (.slice a 0 cap)) (hJ0 : J [] W) :
    CallsIn F n Try.prog 23 #[.func (.yield lp) #[] #[], .pointer (some ⟨Bs, 0, none⟩)] W fun e W' => (∃ v, e = .returned v) ∧ J [] W' := by
  refine callsIn_of_wp Try.func23 rfl h0 ?_ hro
  simp only [Try.ntmps23, List.size_toArray, List.length_cons, List.length_nil, Nat.reduceAdd, Nat.reduceSub, Array.replicate_succ, Array.replicate_zero, List.push_toArray, List.append_toArray, List.nil_append, List.cons_append]
  have hBc := hBs.cell
  gi_wp2
  gi_loopw [3, 7] (fun p i wr => p = .pointer none ∧ i = .int .i64 0 ∧ J [] wr) (fun _ _ _ => 0)
  case atStart => exact ⟨rfl, rfl, hJ0⟩
  case round =>
    obtain ⟨rfl, rfl, hJs⟩ := hrel
    gi_wp2
    go_end0
    exact ⟨⟨_, rfl⟩, hJs⟩
set_option maxHeartbeats 1000000 in
/-- mark.each: the slice lies in a block of its own, which the function holds. -/
theorem each_in (F : Fence) (n : Nat) (h0 : F.fn 17) (hro : F.round = none) (a : Option Addr) (len cap : Nat) (w : World) :
    CallsIn F n Try.prog 17 #[.slice a len cap] w fun e w' => e = .returned (.func (.func 23) #[] #[.pointer (some ⟨w.heap.size, 0, none⟩)]) ∧ w' = w.alloc (.cells #[.slice a len cap] 26) := by
  refine callsIn_of_wp Try.func17 rfl h0 ?_ hro
  simp only [Try.ntmps17, List.size_toArray, List.length_cons, List.length_nil, Nat.reduceAdd, Nat.reduceSub, Array.replicate_succ, Array.replicate_zero, List.push_toArray, List.append_toArray, List.nil_append, List.cons_append]
  gi_wp2
  go_ret
  exact ⟨rfl, rfl⟩
/-- Where the tokens of a slice begin. -/
def baseOf : Value → Nat × Nat
  | .slice (some ⟨b, off, none⟩) _ _ => (b, off)
  | _ => (0, 0)
def pvOf (v : Value) (k : Nat) : Value := pv (baseOf v).1 (baseOf v).2 k
/-- mark.each hands on all of the tokens, in order, each with a pointer to the one ahead. -/
theorem each_stops (F : Fence) (n : Nat) (h0 : F.fn 23) (hro : F.round = none) (hn : 1 ≤ n) (Bs n₀ : Nat) (v : Value) (l : List Tk) (hm : l.length ≤ 3518437208880) (w0 w : World) (hBsl : Bs < w.heap.size) (hn₀ : w0.heap.size ≤ n₀) (hn₁ : n₀ ≤ w.heap.size)
    (hbx : Boxed w Bs 26 v) (hA : TkArg w0 v l) (hb : Below n₀ w0 w) :
    SeqStopsK F n Try.prog 23 #[.pointer (some ⟨Bs, 0, none⟩)] (fun x : Fin l.length => #[tkV l[x], pvOf v x.1]) (KeepB n₀ Bs) (fun ys => ys = List.finRange l.length) (fun _ => True) l.length w := fun lp J Jx W hW _ _ hY hJ0 => by
  have hbx' : Boxed W Bs 26 v := (hW.block Bs hBsl).trans hbx
  by_cases hl : l.length = 0
  · obtain ⟨a, c, rfl⟩ := hA.len
    rw [hl] at hbx'
    refine (each0_in F n h0 hro lp Bs c a J W hbx' hJ0).mono ?_
    rintro e W' ⟨he, hj⟩
    refine ⟨he, .inl ⟨_, rfl, ?_⟩⟩
    have : l = [] := List.eq_nil_of_length_eq_zero hl
    subst this
    exact hj
  · obtain ⟨b, off, c, rfl, hlt, hc⟩ := hA.cells hl
    have hIn : TkIn w0 b off l := ⟨hlt, hc⟩
    exact each1_in F n h0 hro hn lp Bs n₀ b off c l hm (Nat.lt_of_lt_of_le hlt hn₀) J Jx hY W hbx' ((hIn.below hb hn₀).below hW (Nat.le_refl _)) hJ0
end Go.Proofs.Ythjckmoobbpidaa.Mrk
