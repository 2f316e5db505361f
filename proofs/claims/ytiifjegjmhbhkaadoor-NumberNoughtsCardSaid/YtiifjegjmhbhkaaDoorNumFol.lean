/-
  The contract of package number's followed: limbs in memory of the call's own, times a base and a digit more. Condition: at most 2^40 limbs.
-/
import Derived.Test.YtiifjegjmhbhkaaDoorNumNum
import Derived.Test.YtiifjegjmhbhkaaDoorNumRead
import Derived.OwnWalk
import Derived.Laws.OwnMore
import Derived.Deep.AppendLies
namespace Go.Proofs.YtiifjegjmhbhkaaDoor.Num
open Go.RowKit Gly
set_option linter.unusedSimpArgs false
set_option linter.unusedVariables false

theorem infoInt : (Tryd.prog.info? 3).map (fun i => (i.zero, i.size, i.bytes)) = some (some (.int .i64 0), 1, 8) := by kernel_rfl
def intC (xs : List Nat) : List Value := xs.map fun (x : Nat) => Value.int .i64 (x : Int)
theorem intC_len (xs : List Nat) : (intC xs).length = xs.length := by simp [intC]
/-- A row of numbers in memory of the call's own. -/
def Ints (w : World) (B : Nat) (v : Value) (xs : List Nat) : Prop := w.ownsRow B 3 1 v xs.length (intC xs)
theorem Ints.push {w : World} {B : Nat} {v : Value} {xs : List Nat} {x : Nat} (h : w.ownsRow B 3 1 v (xs.length + 1) (intC xs ++ [.int .i64 (x : Int)])) : Ints w B v (xs ++ [x]) := by
  unfold Ints
  rw [List.length_append]
  have : intC (xs ++ [x]) = intC xs ++ [.int .i64 (x : Int)] := by simp [intC]
  rw [this]
  exact h
theorem Ints.kept {w w' : World} {B : Nat} {v : Value} {xs : List Nat} {row : Option Nat} (h : Ints w B v xs) (hg : w.grownBy w' row) (hne : v.ownBlock = none ∨ v.ownBlock ≠ row) : Ints w' B v xs := World.ownsRow.kept h hg hne
theorem grown_trans {a w w' : World} {row row' : Option Nat} (h : a.grownBy w row) (k : w.grownBy w' row') (hr : ∀ j, j < a.heap.size → some j ≠ row → some j ≠ row') : a.grownBy w' row :=
  ⟨k.os.trans h.os, k.tape.trans h.tape, k.output.trans h.output, Nat.le_trans h.size k.size, fun j hj hne => (k.block j (Nat.lt_of_lt_of_le hj h.size) (hr j hj hne)).trans (h.block j hj hne)⟩
theorem Ints.shape {w : World} {B : Nat} {v : Value} {xs : List Nat} (h : Ints w B v xs) : (v = .slice none 0 0 ∧ xs = []) ∨ ∃ g cap, v = .slice (some ⟨g, 0, none⟩) xs.length cap ∧ B ≤ g ∧ g < w.heap.size := by
  rcases h.2 with ⟨rfl, h0⟩ | ⟨g, cap, cur, rfl, hb, hg, _⟩
  · exact .inl ⟨rfl, List.eq_nil_of_length_eq_zero h0⟩
  · exact .inr ⟨g, cap, rfl, hb, lt_of_block hg⟩
theorem Ints.at' {w : World} {B g n cap : Nat} {xs : List Nat} (h : w.ownsRow B 3 1 (.slice (some ⟨g, 0, none⟩) n cap) n (intC xs)) (k : Nat) (hk : k < n) (hx : k < xs.length) : w.cell? ⟨g, k, none⟩ = some (.int .i64 ((xs[k] : Nat) : Int)) := by
  rw [h.cellAt k (by omega)]
  simp [intC, hx]
/-- One limb written. -/
theorem ints_set {w a : World} {B g n cap : Nat} {done r : List Nat} {x y : Nat} (h : w.ownsRow B 3 1 (.slice (some ⟨g, 0, none⟩) n cap) n (intC (done ++ x :: r))) (ha : a.grownBy w (some g)) :
    (w.setCell ⟨g, done.length, none⟩ (.int .i64 (y : Int))).ownsRow B 3 1 (.slice (some ⟨g, 0, none⟩) n cap) n (intC ((done ++ [y]) ++ r)) ∧ a.grownBy (w.setCell ⟨g, done.length, none⟩ (.int .i64 (y : Int))) (some g) := by
  obtain ⟨h1, h2⟩ := h.stored done.length (.int .i64 (y : Int))
  refine ⟨?_, grown_trans ha h2 (fun _ _ hne => hne)⟩
  have e : (intC (done ++ x :: r)).set done.length (.int .i64 (y : Int)) = intC ((done ++ [y]) ++ r) := by
    unfold intC
    rw [List.map_append, List.set_append_right _ _ (by simp), List.length_map, Nat.sub_self, List.map_cons, List.set_cons_zero]
    simp
  rw [e] at h1
  exact h1

theorem fol_end (b c : Nat) : ma b c [] = if c = 0 then [] else [c] := by rw [ma]

set_option maxHeartbeats 1000000 in
set_option maxRecDepth 100000 in
theorem followed_row (B g cap n : Nat) (xs : List Nat) (b d : Nat) (hn : xs.length = n) (hb1 : 1 ≤ b) (hb : b ≤ 16) (hd : d ≤ 15) (hx : ∀ x ∈ xs, x < 1000000000) (hl : n ≤ 1099511627776) (w : World) (hB : B ≤ w.heap.size)
    (own : w.ownsRow B 3 1 (.slice (some ⟨g, 0, none⟩) n cap) n (intC xs)) :
    Calls Tryd.prog 29 #[.slice (some ⟨g, 0, none⟩) n cap, .int .i64 (b : Int), .int .i64 (d : Int)] w fun e w' => ∃ v, e = .returned v ∧ Ints w' B v (ma b d xs) ∧ w.grownBy w' (some g) := by
  obtain ⟨i0, hi, hz0, hz1, hz2⟩ := info_parts infoInt
  have OWN := Lib.hid own
  have HX := Lib.hid hx
  have HN := Lib.hid hn
  clear own hx hn
  go_enter Tryd.func29, Tryd.ntmps29
  go_wp2_with fail
  go_loopw [7, 13] (fun cv kv wr => ∃ (done r : List Nat) (c k : Nat), cv = .int .i64 (c : Int) ∧ kv = .int .i64 (k : Int) ∧ c ≤ 15 ∧ done.length = k ∧ k + r.length = n ∧ (∀ x ∈ r, x < 1000000000) ∧ done ++ ma b c r = ma b d xs ∧
      wr.ownsRow B 3 1 (.slice (some ⟨g, 0, none⟩) n cap) n (intC (done ++ r)) ∧ w.grownBy wr (some g)) (fun _ kv _ => n - (intOf kv).toNat)
  case atStart => exact ⟨[], xs, d, 0, rfl, rfl, hd, rfl, by rw [HN.out]; omega, HX.out, rfl, OWN.out, World.grownBy.refl _ _⟩
  case round =>
    obtain ⟨done, r, c, k, rfl, rfl, hc, hk, hlen, hr, hq, hown, hgr⟩ := hrel
    have HQ := Lib.hid hq
    have HR := Lib.hid hr
    have HK := Lib.hid hk
    have HOWN := Lib.hid hown
    have HGR := Lib.hid hgr
    clear hq hr hown hgr hk
    cases r with
    | nil =>
      obtain rfl : k = n := by simpa using hlen
      have hq := HQ.out
      rw [fol_end] at hq
      have hown := HOWN.out
      rw [List.append_nil] at hown
      have HO := Lib.hid hown
      clear hown hlen
      by_cases h0 : c = 0
      · rw [if_pos h0, List.append_nil] at hq
        have HD := Lib.hid hq
        subst h0
        clear hq
        go_wp2_with fail
        go_ret
        refine ⟨_, rfl, ?_, HGR.out⟩
        rw [← HD.out]
        unfold Ints
        rw [HK.out]
        exact HO.out
      · rw [if_neg h0] at hq
        have HD := Lib.hid hq
        have hcp : decide (0 < c) = true := decide_eq_true (by omega)
        have hgl : Hid (g < wr.heap.size) := (World.ownsRow.lt HO.out g rfl).2
        have hBw : Hid (B ≤ wr.heap.size) := by have := (World.ownsRow.lt HO.out g rfl); unfold Hid; omega
        clear hq h0
        go_wp2_with (first | (at_builtin; refine wpList_append_own _ rfl _ _ 43 rfl B 3 i0 (.int .i64 0) 1 8 Tryd.underlying43 hi hz0 hz1 hz2 rfl (by decide) _ _ _ rfl (HO.out.alloc _) ⟨wr.heap.size, 0, none⟩ 1 1 [.int .i64 (c : Int)] rfl rfl ?c1 ?c2 ?c3 ?c4 ?c5 ?_))
        case c1 =>
          intro j u hj
          match j, hj with
          | 0, hj => simp at hj; subst hj; simp [Addr.add]
        case c2 => intro u hu; simp at hu; subst hu; rfl
        case c3 => unfold maxLen; omega
        case c4 => omega
        case c5 => have := hBw.out; simp; omega
        intro v' w3 hown' hgrow _
        have OWN3 : Hid (Ints w3 B v' (done ++ [c])) := Ints.push (by rw [HK.out]; exact hown')
        have GR3 : Hid (w.grownBy w3 (some g)) := grown_trans (grown_trans HGR.out (World.grownBy_alloc wr _ none) (fun _ _ _ => by simp)) hgrow (fun _ _ hne => hne)
        clear hown' hgrow
        go_wp2_with fail
        go_ret
        refine ⟨_, rfl, ?_, GR3.out⟩
        rw [← HD.out]
        exact OWN3.out
    | cons x r =>
      have hx := HR.out x (by simp)
      obtain ⟨k1, k2⟩ := carry_small x b c hx hb hc
      rw [List.length_cons] at hlen
      have hkn : k < n := by omega
      have hce : Hid (wr.cell? ⟨g, k, none⟩ = some (.int .i64 (x : Int))) := by
        have hd := HK.out
        have hc := Ints.at' HOWN.out k hkn (by simp; omega)
        unfold Hid
        rw [hc]
        simp [← hd]
      have hcell := hce.out
      have hfz := World.ownsRow.frozenAt HOWN.out k
      have hm1 : ((x : Int) * (b : Int)) = ((x * b : Nat) : Int) := (Int.natCast_mul x b).symm
      have hm2 : (x : Int) * (b : Int) ≤ 15999999999 - (c : Int) := by omega
      have hm3 : 0 ≤ (x : Int) * (b : Int) := by omega
      have HM := Lib.hid hm1
      clear hm1 hce
      go_wp2_with fail
      go_roundw
      case rel =>
        have hm := HM.out
        have hq := HQ.out
        rw [ma] at hq
        have hs := ints_set (y := (x * b + c) % 1000000000) HOWN.out HGR.out
        rw [HK.out] at hs
        have e1 : (((x : Int) * (b : Int) + (c : Int)) / 1000000000) = (((x * b + c) / 1000000000 : Nat) : Int) := by rw [hm]; rfl
        have e2 : (((x : Int) * (b : Int) + (c : Int)) % 1000000000) = (((x * b + c) % 1000000000 : Nat) : Int) := by rw [hm]; rfl
        refine ⟨done ++ [(x * b + c) % 1000000000], r, (x * b + c) / 1000000000, k + 1, by rw [e1], by go_num, k2, by rw [List.length_append, HK.out]; rfl, by omega, fun y hy => HR.out y (by simp [hy]), by rw [List.append_assoc]; exact hq, ?_⟩
        rw [e2]
        exact hs
      case measure => simp [intOf]; omega
theorem followed_nil (B b d : Nat) (hd : d ≤ 15) (w : World) (hB : B ≤ w.heap.size) :
    Calls Tryd.prog 29 #[.slice none 0 0, .int .i64 (b : Int), .int .i64 (d : Int)] w fun e w' => ∃ v, e = .returned v ∧ Ints w' B v (ma b d []) ∧ w.grownBy w' none := by
  obtain ⟨i0, hi, hz0, hz1, hz2⟩ := info_parts infoInt
  have on : Ints w B (.slice none 0 0) [] := World.ownsRow_nil _ _ _ _
  have ON := Lib.hid on
  clear on
  by_cases h0 : d = 0
  · subst h0
    go_enter Tryd.func29, Tryd.ntmps29
    go_wp2_with fail
    refine wp_loop_rounds 1 ?_
    rw [rounds_succ]
    go_wp2_with fail
    go_ret
    exact ⟨_, rfl, ON.out, World.grownBy.refl _ _⟩
  · have hcp : decide (0 < d) = true := decide_eq_true (by omega)
    have HM : Hid (ma b d [] = [d]) := by unfold Hid; rw [ma, if_neg h0]
    clear h0
    go_enter Tryd.func29, Tryd.ntmps29
    go_wp2_with fail
    refine wp_loop_rounds 1 ?_
    rw [rounds_succ]
    go_wp2_with (first | (at_builtin; refine wpList_append_own _ rfl _ _ 43 rfl B 3 i0 (.int .i64 0) 1 8 Tryd.underlying43 hi hz0 hz1 hz2 rfl (by decide) _ _ _ rfl (ON.out.alloc _) ⟨w.heap.size, 0, none⟩ 1 1 [.int .i64 (d : Int)] rfl rfl ?c1 ?c2 ?c3 ?c4 ?c5 ?_))
    case c1 =>
      intro j u hj
      match j, hj with
      | 0, hj => simp at hj; subst hj; simp [Addr.add]
    case c2 => intro u hu; simp at hu; subst hu; rfl
    case c3 => simp [maxLen]
    case c4 => simp
    case c5 => simp; omega
    intro v' w3 hown' hgrow _
    have OWN3 : Hid (Ints w3 B v' [d]) := Ints.push (xs := []) hown'
    have GR3 : Hid (w.grownBy w3 none) := grown_trans (World.grownBy_alloc w _ none) hgrow (fun _ _ _ => by simp [Value.ownBlock])
    clear hown' hgrow
    go_wp2_with fail
    go_ret
    refine ⟨_, rfl, ?_, GR3.out⟩
    rw [HM.out]
    exact OWN3.out
theorem followed_any (B : Nat) (v : Value) (xs : List Nat) (b d : Nat) (hb1 : 1 ≤ b) (hb : b ≤ 16) (hd : d ≤ 15) (hx : ∀ x ∈ xs, x < 1000000000) (hl : xs.length ≤ 1099511627776) (w : World) (hB : B ≤ w.heap.size) (own : Ints w B v xs) :
    Calls Tryd.prog 29 #[v, .int .i64 (b : Int), .int .i64 (d : Int)] w fun e w' => ∃ v', e = .returned v' ∧ Ints w' B v' (ma b d xs) ∧ w.grownBy w' v.ownBlock := by
  rcases own.shape with ⟨rfl, rfl⟩ | ⟨g, cap, rfl, hg, -⟩
  · exact followed_nil B b d hd w hB
  · exact followed_row B g cap xs.length xs b d rfl hb1 hb hd hx hl w hB own
end Go.Proofs.YtiifjegjmhbhkaaDoor.Num
