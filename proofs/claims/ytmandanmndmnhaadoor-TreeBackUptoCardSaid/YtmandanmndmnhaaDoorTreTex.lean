/-
  The document's own text. Conditions: texts of at most 2^46 bytes.
-/
import Derived.Test.YtmandanmndmnhaaDoorTreNum
import Derived.Deep.TreeCalls
namespace Go.Proofs.YtmandanmndmnhaaDoor.Tre
open Tks Go.RowKit
set_option linter.unusedSimpArgs false
set_option linter.unusedVariables false

def badT : Array Value := #[.string ⟨#[]⟩, .int .i64 (-1)]
/-- What stands in quotes at a place, and where it ends. -/
def textR (s : ByteArray) (p : Nat) : Array Value :=
  if (rest s p).head? = some (byte 34) then (match txtL ((rest s p).drop 1) with
    | none => badT
    | some (t, q) => #[.string ⟨t.toArray⟩, .int .i64 ((s.size - q.length : Nat) : Int)])
  else badT
theorem rest_len (s : ByteArray) (n : Nat) : (rest s n).length = s.size - n := by
  unfold rest
  rw [List.length_drop, Array.length_toList]
  rfl
theorem txt_none {c : UInt8} (h : c.toNat ≠ 34) (hp : plainB c = false) (h2 : c.toNat ≠ 92) (r : List UInt8) : txtL (c :: r) = none := by
  match r with
  | [] => rw [txtL, if_neg h]
  | [d] => rw [txtL, if_neg h, if_neg (by rw [hp]; decide)]
  | a :: b :: r => rw [txtL, if_neg h, if_neg (by rw [hp]; decide), if_neg (fun q => h2 q.1)]
theorem txt_plain2 {c : UInt8} (h : plainB c = true) (r : List UInt8) : txtL (c :: r) = (txtL r).map (fun p => (c :: p.1, p.2)) := by
  by_cases hr : r = []
  · subst hr
    conv => lhs; rw [txtL]
    rw [if_neg (plain_ne h)]
    rfl
  · exact txt_plain h r hr
theorem txt_slash (c : UInt8) (hc : c.toNat = 92) (a b : UInt8) (r : List UInt8) : txtL (c :: a :: b :: r) = if halfL a < 16 ∧ halfL b < 16 ∧ plainB (byte (halfL a * 16 + halfL b)) = false then (txtL r).map (fun p => (byte (halfL a * 16 + halfL b) :: p.1, p.2)) else none := by
  have hp : plainB c = false := by
    unfold plainB
    rw [hc]
    decide
  conv => lhs; rw [txtL]
  rw [if_neg (by omega), if_neg (by rw [hp]; decide)]
  by_cases q : halfL a < 16 ∧ halfL b < 16 ∧ plainB (byte (halfL a * 16 + halfL b)) = false
  · rw [if_pos q, if_pos ⟨hc, q⟩]
  · rw [if_neg q, if_neg (fun h => q h.2)]
theorem txt_short {c : UInt8} (hc : c.toNat = 92) (r : List UInt8) (hr : r.length < 2) : txtL (c :: r) = none := by
  have hp : plainB c = false := by
    unfold plainB
    rw [hc]
    decide
  match r, hr with
  | [], _ => rw [txtL, if_neg (by omega)]
  | [d], _ => rw [txtL, if_neg (by omega), if_neg (by rw [hp]; decide)]
theorem slash_wraps {q q1 q2 q3 n : Nat} (h1 : q + 1 = q1) (h2 : q + 2 = q2) (h3 : q + 3 = q3) (hq : q < n) (hn : n ≤ 70368744177664) : wrap64 ((q : Int) + 1) = (q1 : Int) ∧ IntKind.i64.wrap ((q : Int) + 1) = (q1 : Int) ∧ wrap64 ((q : Int) + 2) = (q2 : Int) ∧ IntKind.i64.wrap ((q : Int) + 2) = (q2 : Int) ∧ wrap64 ((q2 : Int) + 1) = (q3 : Int) ∧ IntKind.i64.wrap ((q2 : Int) + 1) = (q3 : Int) := by
  have e1 : wrap64 ((q : Int) + 1) = (q1 : Int) := by rw [IntWalk.wrap64_in _ ⟨by omega, by omega⟩]; omega
  have e2 : wrap64 ((q : Int) + 2) = (q2 : Int) := by clear e1; rw [IntWalk.wrap64_in _ ⟨by omega, by omega⟩]; omega
  have e3 : wrap64 ((q2 : Int) + 1) = (q3 : Int) := by clear e1 e2; rw [IntWalk.wrap64_in _ ⟨by omega, by omega⟩]; omega
  exact ⟨e1, by rw [IntWalk.i64_left]; exact e1, e2, by rw [IntWalk.i64_left]; exact e2, e3, by rw [IntWalk.i64_left]; exact e3⟩
theorem hex_wraps {x y v : Nat} (hx : x < 16) (hy : y < 16) (hv : v = x * 16 + y) : wrap64 ((x : Int) * 16) = (x : Int) * 16 ∧ IntKind.i64.wrap ((x : Int) * 16) = (x : Int) * 16 ∧ wrap64 ((x : Int) * 16 + (y : Int)) = (x : Int) * 16 + (y : Int) ∧ IntKind.i64.wrap ((x : Int) * 16 + (y : Int)) = (x : Int) * 16 + (y : Int) ∧ IntKind.u8.wrap ((x : Int) * 16 + (y : Int)) = (v : Int) := by
  have e1 : wrap64 ((x : Int) * 16) = (x : Int) * 16 := IntWalk.wrap64_in _ ⟨by omega, by omega⟩
  have e2 : wrap64 ((x : Int) * 16 + (y : Int)) = (x : Int) * 16 + (y : Int) := by clear e1; exact IntWalk.wrap64_in _ ⟨by omega, by omega⟩
  exact ⟨e1, by rw [IntWalk.i64_left]; exact e1, e2, by rw [IntWalk.i64_left]; exact e2, by clear e1 e2; rw [IntKind.wrap_u8]; omega⟩
theorem bdrewN (W : World) (n : Nat) : Below W.heap.size W (W.drewN n) := by
  induction n with
  | zero => exact Below.refl _ _
  | succ n ih => exact ⟨ih.os, ih.tape, ih.output, ih.size, ih.block⟩
theorem dec_no {p : Prop} [Decidable p] (h : ¬ p) : decide p = false := decide_eq_false h
theorem dec_yes {p : Prop} [Decidable p] (h : p) : decide p = true := decide_eq_true h
theorem plain_facts9 {c : UInt8} (h : plainB c = true) : decide ((32 : Int) ≤ (c.toNat : Int)) = true ∧ decide ((c.toNat : Int) ≤ 126) = true ∧ ((c.toNat : Int) != 34) = true ∧ ((c.toNat : Int) != 92) = true := by
  unfold plainB at h
  simp only [Bool.and_eq_true, decide_eq_true_eq, bne_iff_ne] at h
  obtain ⟨h1, h2, h3, h4⟩ := h
  exact ⟨decide_eq_true (by omega), decide_eq_true (by omega), bne_iff_ne.2 (by omega), bne_iff_ne.2 (by omega)⟩
theorem map_none (acc : List UInt8) : (none : Option (List UInt8 × List UInt8)).map (fun r => (acc ++ r.1, r.2)) = none := rfl
set_option maxRecDepth 1000000 in
set_option maxHeartbeats 8000000 in
theorem reftext_any (s : ByteArray) (p : Nat) (hp : p ≤ s.size) (hs : s.size ≤ 70368744177664) (w : World) :
    Calls Tryd.prog 51 #[.string s, .int .i64 (p : Int)] w fun e w' => e = .returned (.tuple (textR s p)) ∧ Below w.heap.size w w' := by
  have HS := Lib.hid hs
  have HR := Lib.hid (rfl : textR s p = textR s p)
  by_cases a1 : p < s.size
  · have d1 : decide ((s.size : Int) ≤ (p : Int)) = false := decide_eq_false (by omega)
    have d1n : decide (s.size ≤ p) = false := decide_eq_false (by omega)
    have i0 : (0 : Int) ≤ (p : Int) := by omega
    have i1 : (p : Int) < (s.size : Int) := by omega
    obtain ⟨c0, hc0⟩ : ∃ c0, s[p] = c0 := ⟨_, rfl⟩
    have hrc := rest_cons s p a1
    rw [hc0] at hrc
    by_cases z0 : c0.toNat = 34
    · have z1 : ((c0.toNat : Int) != 34) = false := by rw [bne_eq_false_iff_eq]; omega
      have H34 : Hid ((rest s p).head? = some (byte 34)) := by
        unfold Hid
        rw [hrc, List.head?_cons, byte_eq z0]
      have HD1 : Hid ((rest s p).drop 1 = rest s (p + 1)) := by
        unfold Hid
        rw [hrc]
        rfl
      obtain ⟨p1, ep1⟩ : ∃ p1, p + 1 = p1 := ⟨_, rfl⟩
      have EP1 := Lib.hid ep1
      have y1 : wrap64 ((p : Int) + 1) = (p1 : Int) := by rw [← ep1]; exact IntWalk.wrap64_in _ ⟨by omega, by omega⟩
      have y2 : IntKind.i64.wrap ((p : Int) + 1) = (p1 : Int) := by rw [IntWalk.i64_left]; exact y1
      have HP1 : Hid (p1 ≤ s.size) := by unfold Hid; omega
      have HTX0 : Hid (txtL ((rest s p).drop 1) = (txtL (rest s p1)).map (fun r => ([] ++ r.1, r.2))) := by
        unfold Hid
        rw [HD1.out, ep1]
        cases txtL (rest s p1) <;> rfl
      clear z0 hrc ep1 hp hs HD1 HR
      go_enter Tryd.func51, Tryd.ntmps51
      go_wp2_with fail
      clear y1 y2
      go_loopw [1, 6] (fun iv bv wr => ∃ (q : Nat) (acc : List UInt8), iv = .int .i64 (q : Int) ∧ Hid (q ≤ s.size) ∧ Hid (txtL ((rest s p).drop 1) = (txtL (rest s q)).map (fun r => (acc ++ r.1, r.2))) ∧ Bytes wr w.heap.size bv acc ∧ Below w.heap.size w wr ∧ Hid (acc.length ≤ q)) (fun iv _ _ => s.size - (intOf iv).toNat)
      case atStart => exact ⟨p1, [], rfl, HP1, HTX0, World.ownsRow_nil _ _ _ _, Below.refl _ _, Nat.zero_le _⟩
      case round =>
        obtain ⟨q, acc, rfl, HQS, HTX, hby, hb, HAL⟩ := hrel
        have OW := Lib.hid hby
        have BW := Lib.hid hb
        clear hby hb HTX0 HP1
        have SZW : Hid (w.heap.size ≤ wr.heap.size) := BW.out.size
        by_cases a1 : q < s.size
        · have d2 : decide ((q : Int) < (s.size : Int)) = true := decide_eq_true (by omega)
          have d2n : decide (q < s.size) = true := decide_eq_true a1
          have d3 : decide ((s.size : Int) ≤ (q : Int)) = false := decide_eq_false (by omega)
          have d3n : decide (s.size ≤ q) = false := decide_eq_false (by omega)
          have j0 : (0 : Int) ≤ (q : Int) := by omega
          have j1 : (q : Int) < (s.size : Int) := by omega
          obtain ⟨c, hc⟩ : ∃ c, s[q] = c := ⟨_, rfl⟩
          have hrq := rest_cons s q a1
          rw [hc] at hrq
          have HRQ := Lib.hid hrq
          have hc256 := nat_lt c
          obtain ⟨q1, eq1⟩ : ∃ q1, q + 1 = q1 := ⟨_, rfl⟩
          obtain ⟨q2, eq2⟩ : ∃ q2, q + 2 = q2 := ⟨_, rfl⟩
          obtain ⟨q3, eq3⟩ : ∃ q3, q + 3 = q3 := ⟨_, rfl⟩
          have EQ := Lib.hid (And.intro eq1 (And.intro eq2 eq3))
          have A1 := Lib.hid a1
          rw [eq1] at hrq HRQ
          by_cases b34 : c.toNat = 34
          · have f1 : ((c.toNat : Int) != 34) = false := by rw [bne_eq_false_iff_eq]; omega
            have HRS : Hid (textR s p = #[.string ⟨acc.toArray⟩, .int .i64 (q1 : Int)]) := by
              have h34 := H34.out
              have ht := HTX.out
              rw [HRQ.out, byte_eq b34, txt_quote] at ht
              unfold Hid textR
              rw [if_pos h34, ht]
              show #[Value.string ⟨(acc ++ []).toArray⟩, Value.int .i64 ((s.size - (rest s q1).length : Nat) : Int)] = _
              rw [List.append_nil, rest_len, show s.size - (s.size - q1) = q1 from by omega]
            have T := OW.out.text
            have y1 : wrap64 ((q : Int) + 1) = (q1 : Int) := by rw [← eq1]; exact IntWalk.wrap64_in _ ⟨by omega, by have := HS.out; omega⟩
            have y2 : IntKind.i64.wrap ((q : Int) + 1) = (q1 : Int) := by rw [IntWalk.i64_left]; exact y1
            clear b34 hc256 eq1 eq2 eq3 hrq
            go_wp2_with fail
            go_ret2
            exact ⟨by rw [HRS.out]; rfl, BW.out⟩
          have f1 : ((c.toNat : Int) != 34) = true := by rw [bne_iff_ne]; omega
          by_cases b32 : c.toNat < 32
          · have f2 : decide ((c.toNat : Int) < 32) = true := decide_eq_true (by omega)
            have hno : txtL (c :: rest s q1) = none := txt_none b34 (by unfold plainB; rw [decide_eq_false (by omega)]; rfl) (by omega) _
            clear b34 b32 hc256 eq1 eq2 eq3 hrq
            have HBD : Hid (textR s p = badT) := by
              have h34 := H34.out
              unfold Hid textR
              rw [if_pos h34, HTX.out, HRQ.out, hno, map_none]
            go_wp2_with fail
            go_ret2
            exact ⟨by rw [HBD.out]; rfl, BW.out⟩
          have f2 : decide ((c.toNat : Int) < 32) = false := decide_eq_false (by omega)
          by_cases b126 : 126 < c.toNat
          · have f3 : decide ((126 : Int) < (c.toNat : Int)) = true := decide_eq_true (by omega)
            have hno : txtL (c :: rest s q1) = none := txt_none b34 (by unfold plainB; rw [decide_eq_true (by omega : 32 ≤ c.toNat), decide_eq_false (by omega : ¬ c.toNat ≤ 126)]; rfl) (by omega) _
            clear b34 b32 b126 hc256 eq1 eq2 eq3 hrq
            have HBD : Hid (textR s p = badT) := by
              have h34 := H34.out
              unfold Hid textR
              rw [if_pos h34, HTX.out, HRQ.out, hno, map_none]
            go_wp2_with fail
            go_ret2
            exact ⟨by rw [HBD.out]; rfl, BW.out⟩
          have f3 : decide ((126 : Int) < (c.toNat : Int)) = false := decide_eq_false (by omega)
          by_cases b92 : c.toNat = 92
          · have f4 : ((c.toNat : Int) == 92) = true := beq_iff_eq.2 (by omega)
            have YS := Lib.hid (slash_wraps eq1 eq2 eq3 a1 HS.out)
            by_cases g2 : q2 < s.size
            · have k1 : decide ((s.size : Int) ≤ (q2 : Int)) = false := decide_eq_false (by omega)
              have k1n : decide (s.size ≤ q2) = false := decide_eq_false (by omega)
              have g1 : q1 < s.size := by omega
              have l0 : (0 : Int) ≤ (q1 : Int) := by omega
              have l1 : (q1 : Int) < (s.size : Int) := by omega
              have l2 : (0 : Int) ≤ (q2 : Int) := by omega
              have l3 : (q2 : Int) < (s.size : Int) := by omega
              obtain ⟨a, ha⟩ : ∃ a, s[q1] = a := ⟨_, rfl⟩
              obtain ⟨b, hb⟩ : ∃ b, s[q2] = b := ⟨_, rfl⟩
              have HR2 : Hid (rest s q1 = a :: b :: rest s q3) := by
                unfold Hid
                rw [rest_cons s q1 g1, ha, show q1 + 1 = q2 from by omega, rest_cons s q2 g2, hb, show q2 + 1 = q3 from by omega]
              have hsl : Hid (txtL (rest s q) = if halfL a < 16 ∧ halfL b < 16 ∧ plainB (byte (halfL a * 16 + halfL b)) = false then (txtL (rest s q3)).map (fun p => (byte (halfL a * 16 + halfL b) :: p.1, p.2)) else none) := by
                unfold Hid
                rw [HRQ.out, HR2.out, txt_slash c b92]
              have CA0 := fun W => refhalf_any a W
              have CB0 := fun W => refhalf_any b W
              by_cases m1 : halfL a < 16
              · by_cases m2 : halfL b < 16
                · obtain ⟨x, hx⟩ : ∃ x, halfL a = x := ⟨_, rfl⟩
                  obtain ⟨y, hy⟩ : ∃ y, halfL b = y := ⟨_, rfl⟩
                  rw [hx, hy] at hsl
                  rw [hx] at m1 CA0
                  rw [hy] at m2 CB0
                  rw [if_pos m1] at CA0
                  rw [if_pos m2] at CB0
                  have CA := Lib.hid CA0
                  have CB := Lib.hid CB0
                  have CAQ : Hid (∀ W, Calls Tryd.prog 55 #[.int .u8 (a.toNat : Int)] W fun e w' => e = .returned (.int .i64 (x : Int)) ∧ ∃ n, w' = W.drewN n) := fun W => (CA.out W).mono (fun e w' q => ⟨q.1, 0, q.2⟩)
                  have CBQ : Hid (∀ W, Calls Tryd.prog 55 #[.int .u8 (b.toNat : Int)] W fun e w' => e = .returned (.int .i64 (y : Int)) ∧ ∃ n, w' = W.drewN n) := fun W => (CB.out W).mono (fun e w' q => ⟨q.1, 0, q.2⟩)
                  have n1 : decide ((x : Int) < 0) = false := decide_eq_false (by omega)
                  have n2 : decide ((y : Int) < 0) = false := decide_eq_false (by omega)
                  obtain ⟨vb, hvb⟩ : ∃ vb, byte (x * 16 + y) = vb := ⟨_, rfl⟩
                  have hvn : vb.toNat = x * 16 + y := by rw [← hvb]; exact byte_nat _ (by omega)
                  rw [hvb] at hsl
                  have WS := Lib.hid (hex_wraps m1 m2 hvn)
                  have G2 := Lib.hid g2
                  have m1h := Lib.hid m1
                  have m2h := Lib.hid m2
                  clear CA0 CB0 b34 b32 b126 b92 hc256 eq1 eq2 eq3 hrq hvb hx hy m1 m2 hvn
                  obtain ⟨y1, y2, y3, y4, y5, y6⟩ := YS.out
                  obtain ⟨w1, w2, w3, w4, w5⟩ := WS.out
                  go_upto_region 12 with (first
                    | (go_at_call_of 55 (Value.int IntKind.u8 (a.toNat : Int)); refine (CA.out _).mono ?_; rintro e w2' ⟨rfl, hw⟩; rw [hw]; clear hw)
                    | (go_at_call_of 55 (Value.int IntKind.u8 (b.toNat : Int)); refine (CB.out _).mono ?_; rintro e w2' ⟨rfl, hw⟩; rw [hw]; clear hw))
                  go_quiet (first
                    | (go_at_call_of 55 (Value.int IntKind.u8 (a.toNat : Int)); refine Calls.quiet_of (CAQ.out _))
                    | (go_at_call_of 55 (Value.int IntKind.u8 (b.toNat : Int)); refine Calls.quiet_of (CBQ.out _)))
                  have hz := bdrewN wr nq
                  have OZ := Lib.hid (OW.out.below hz)
                  have BZ := Lib.hid (BW.out.trans (hz.mono SZW.out))
                  have SZZ := Lib.hid (Nat.le_trans SZW.out hz.size)
                  clear hz
                  generalize wr.drewN nq = Z at OZ BZ SZZ ⊢
                  cases hpl : plainB vb with
                  | true =>
                    obtain ⟨e1, e2, e3, e4⟩ := plain_facts9 hpl
                    have HBD : Hid (textR s p = badT) := by
                      have h34 := H34.out
                      unfold Hid textR
                      rw [if_pos h34, HTX.out, hsl.out, if_neg (fun h => absurd (hpl.symm.trans h.2.2) (by decide)), map_none]
                    go_wp2_with fail
                    go_ret2
                    exact ⟨by rw [HBD.out]; rfl, BZ.out⟩
                  | false =>
                    have HT2 : Hid (txtL ((rest s p).drop 1) = (txtL (rest s q3)).map (fun r => ((acc ++ [vb]) ++ r.1, r.2))) := by
                      have ht := HTX.out
                      rw [hsl.out, if_pos ⟨m1h.out, m2h.out, hpl⟩] at ht
                      unfold Hid
                      rw [ht]
                      cases txtL (rest s q3) <;> simp
                    rcases other_facts hpl with (e | e) | (e | e)
                    · have e1 : decide ((32 : Int) ≤ (vb.toNat : Int)) = false := dec_no (by exact_mod_cast Nat.not_le.2 e)
                      clear e
                      go_wp2_with (first
                        | (at_builtin; refine push_lit Z rfl _ _ rfl w.heap.size u6 acc rfl OZ.out [vb] _ rfl 1 rfl rfl (by clear y1 y2 y3 y4 y5 y6 w1 w2 w3 w4 w5; have := HAL.out; have := A1.out; have := HS.out; omega) SZZ.out ?_; intro v5 w5' h5 b5 n5; have O5 := Lib.hid h5; have B5 := Lib.hid b5; clear h5 b5 n5))
                      go_roundw
                      case rel =>
                        clear y1 y2 y3 y4 y5 y6 w1 w2 w3 w4 w5
                        exact ⟨q3, acc ++ [vb], rfl, by have := EQ.out.2.2; have := EQ.out.2.1; have := G2.out; unfold Hid; omega, HT2, O5.out, BZ.out.trans B5.out, by have := HAL.out; have := EQ.out.2.2; unfold Hid; rw [List.length_append, List.length_singleton]; omega⟩
                      case measure =>
                        clear y1 y2 y3 y4 y5 y6 w1 w2 w3 w4 w5
                        have := A1.out
                        have := EQ.out.2.2
                        simp only [intOf]
                        omega
                    · have e1 : decide ((32 : Int) ≤ (vb.toNat : Int)) = true := dec_yes (by exact_mod_cast Nat.le_trans (by decide) (Nat.le_of_lt e))
                      have e2 : decide ((vb.toNat : Int) ≤ 126) = false := dec_no (by exact_mod_cast Nat.not_le.2 e)
                      clear e
                      go_wp2_with (first
                        | (at_builtin; refine push_lit Z rfl _ _ rfl w.heap.size u6 acc rfl OZ.out [vb] _ rfl 1 rfl rfl (by clear y1 y2 y3 y4 y5 y6 w1 w2 w3 w4 w5; have := HAL.out; have := A1.out; have := HS.out; omega) SZZ.out ?_; intro v5 w5' h5 b5 n5; have O5 := Lib.hid h5; have B5 := Lib.hid b5; clear h5 b5 n5))
                      go_roundw
                      case rel =>
                        clear y1 y2 y3 y4 y5 y6 w1 w2 w3 w4 w5
                        exact ⟨q3, acc ++ [vb], rfl, by have := EQ.out.2.2; have := EQ.out.2.1; have := G2.out; unfold Hid; omega, HT2, O5.out, BZ.out.trans B5.out, by have := HAL.out; have := EQ.out.2.2; unfold Hid; rw [List.length_append, List.length_singleton]; omega⟩
                      case measure =>
                        clear y1 y2 y3 y4 y5 y6 w1 w2 w3 w4 w5
                        have := A1.out
                        have := EQ.out.2.2
                        simp only [intOf]
                        omega
                    · have e1 : decide ((32 : Int) ≤ (vb.toNat : Int)) = true := by rw [e]; rfl
                      have e2 : decide ((vb.toNat : Int) ≤ 126) = true := by rw [e]; rfl
                      have e3 : ((vb.toNat : Int) != 34) = false := by rw [e]; rfl
                      clear e
                      go_wp2_with (first
                        | (at_builtin; refine push_lit Z rfl _ _ rfl w.heap.size u6 acc rfl OZ.out [vb] _ rfl 1 rfl rfl (by clear y1 y2 y3 y4 y5 y6 w1 w2 w3 w4 w5; have := HAL.out; have := A1.out; have := HS.out; omega) SZZ.out ?_; intro v5 w5' h5 b5 n5; have O5 := Lib.hid h5; have B5 := Lib.hid b5; clear h5 b5 n5))
                      go_roundw
                      case rel =>
                        clear y1 y2 y3 y4 y5 y6 w1 w2 w3 w4 w5
                        exact ⟨q3, acc ++ [vb], rfl, by have := EQ.out.2.2; have := EQ.out.2.1; have := G2.out; unfold Hid; omega, HT2, O5.out, BZ.out.trans B5.out, by have := HAL.out; have := EQ.out.2.2; unfold Hid; rw [List.length_append, List.length_singleton]; omega⟩
                      case measure =>
                        clear y1 y2 y3 y4 y5 y6 w1 w2 w3 w4 w5
                        have := A1.out
                        have := EQ.out.2.2
                        simp only [intOf]
                        omega
                    · have e1 : decide ((32 : Int) ≤ (vb.toNat : Int)) = true := by rw [e]; rfl
                      have e2 : decide ((vb.toNat : Int) ≤ 126) = true := by rw [e]; rfl
                      have e3 : ((vb.toNat : Int) != 34) = true := by rw [e]; rfl
                      have e4 : ((vb.toNat : Int) != 92) = false := by rw [e]; rfl
                      clear e
                      go_wp2_with (first
                        | (at_builtin; refine push_lit Z rfl _ _ rfl w.heap.size u6 acc rfl OZ.out [vb] _ rfl 1 rfl rfl (by clear y1 y2 y3 y4 y5 y6 w1 w2 w3 w4 w5; have := HAL.out; have := A1.out; have := HS.out; omega) SZZ.out ?_; intro v5 w5' h5 b5 n5; have O5 := Lib.hid h5; have B5 := Lib.hid b5; clear h5 b5 n5))
                      go_roundw
                      case rel =>
                        clear y1 y2 y3 y4 y5 y6 w1 w2 w3 w4 w5
                        exact ⟨q3, acc ++ [vb], rfl, by have := EQ.out.2.2; have := EQ.out.2.1; have := G2.out; unfold Hid; omega, HT2, O5.out, BZ.out.trans B5.out, by have := HAL.out; have := EQ.out.2.2; unfold Hid; rw [List.length_append, List.length_singleton]; omega⟩
                      case measure =>
                        clear y1 y2 y3 y4 y5 y6 w1 w2 w3 w4 w5
                        have := A1.out
                        have := EQ.out.2.2
                        simp only [intOf]
                        omega
                · obtain ⟨x, hx⟩ : ∃ x, halfL a = x := ⟨_, rfl⟩
                  have m2h := Lib.hid m2
                  rw [hx] at m1 CA0
                  rw [if_pos m1] at CA0
                  rw [if_neg m2] at CB0
                  have CA := Lib.hid CA0
                  have CB := Lib.hid CB0
                  have n1 : decide ((x : Int) < 0) = false := decide_eq_false (by omega)
                  clear CA0 CB0 b34 b32 b126 b92 hc256 eq1 eq2 eq3 hrq m1 m2 hx
                  obtain ⟨y1, y2, y3, y4, y5, y6⟩ := YS.out
                  have HBD : Hid (textR s p = badT) := by
                    have h34 := H34.out
                    unfold Hid textR
                    rw [if_pos h34, HTX.out, hsl.out, if_neg (fun h => absurd h.2.1 m2h.out), map_none]
                  go_wp2_with (first
                    | (go_at_call_of 55 (Value.int IntKind.u8 (a.toNat : Int)); refine (CA.out _).mono ?_; rintro e w2' ⟨rfl, hw⟩; rw [hw]; clear hw)
                    | (go_at_call_of 55 (Value.int IntKind.u8 (b.toNat : Int)); refine (CB.out _).mono ?_; rintro e w2' ⟨rfl, hw⟩; rw [hw]; clear hw))
                  go_ret2
                  exact ⟨by rw [HBD.out]; rfl, BW.out⟩
              · have m1h := Lib.hid m1
                rw [if_neg m1] at CA0
                have CA := Lib.hid CA0
                clear CA0 CB0 b34 b32 b126 b92 hc256 eq1 eq2 eq3 hrq m1
                obtain ⟨y1, y2, y3, y4, y5, y6⟩ := YS.out
                have HBD : Hid (textR s p = badT) := by
                  have h34 := H34.out
                  unfold Hid textR
                  rw [if_pos h34, HTX.out, hsl.out, if_neg (fun h => absurd h.1 m1h.out), map_none]
                go_wp2_with (first
                  | (go_at_call_of 55 (Value.int IntKind.u8 (a.toNat : Int)); refine (CA.out _).mono ?_; rintro e w2' ⟨rfl, hw⟩; rw [hw]; clear hw))
                go_ret2
                exact ⟨by rw [HBD.out]; rfl, BW.out⟩
            · have k1 : decide ((s.size : Int) ≤ (q2 : Int)) = true := decide_eq_true (by omega)
              have k1n : decide (s.size ≤ q2) = true := decide_eq_true (by omega)
              have hno : txtL (c :: rest s q1) = none := txt_short b92 _ (by rw [rest_len]; omega)
              clear b34 b32 b126 b92 hc256 eq1 eq2 eq3 hrq g2
              obtain ⟨y1, y2, y3, y4, y5, y6⟩ := YS.out
              have HBD : Hid (textR s p = badT) := by
                have h34 := H34.out
                unfold Hid textR
                rw [if_pos h34, HTX.out, HRQ.out, hno, map_none]
              go_wp2_with fail
              go_ret2
              exact ⟨by rw [HBD.out]; rfl, BW.out⟩
          have f4 : ((c.toNat : Int) == 92) = false := beq_eq_false_iff_ne.2 (by omega)
          have hpl : plainB c = true := by
            unfold plainB
            rw [decide_eq_true (by omega : 32 ≤ c.toNat), decide_eq_true (by omega : c.toNat ≤ 126), bne_iff_ne.2 b34, bne_iff_ne.2 b92]
            rfl
          have HT2 : Hid (txtL ((rest s p).drop 1) = (txtL (rest s q1)).map (fun r => ((acc ++ [c]) ++ r.1, r.2))) := by
            have ht := HTX.out
            rw [HRQ.out, txt_plain2 hpl] at ht
            unfold Hid
            rw [ht]
            cases txtL (rest s q1) <;> simp
          have y1 : wrap64 ((q : Int) + 1) = (q1 : Int) := by rw [← eq1]; exact IntWalk.wrap64_in _ ⟨by omega, by have := HS.out; omega⟩
          have y2 : IntKind.i64.wrap ((q : Int) + 1) = (q1 : Int) := by rw [IntWalk.i64_left]; exact y1
          clear b34 b32 b126 b92 hc256 eq1 eq2 eq3 hrq hpl
          go_wp2_with (first
            | (at_builtin; refine push_lit wr rfl _ _ rfl w.heap.size u6 acc rfl OW.out [c] _ rfl 1 rfl rfl (by have := HAL.out; have := A1.out; have := HS.out; omega) SZW.out ?_; intro v5 w5 h5 b5 n5; have O5 := Lib.hid h5; have B5 := Lib.hid b5; clear h5 b5 n5))
          go_roundw
          case rel =>
            clear y1 y2
            exact ⟨q1, acc ++ [c], rfl, by have := EQ.out.1; have := A1.out; unfold Hid; omega, HT2, O5.out, BW.out.trans B5.out, by have := HAL.out; have := EQ.out.1; unfold Hid; rw [List.length_append, List.length_singleton]; omega⟩
          case measure =>
            clear y1 y2
            have := A1.out
            have := EQ.out.1
            simp only [intOf]
            omega
        · have d2 : decide ((q : Int) < (s.size : Int)) = false := decide_eq_false (by omega)
          have d2n : decide (q < s.size) = false := decide_eq_false a1
          have d3 : decide ((s.size : Int) ≤ (q : Int)) = true := decide_eq_true (by omega)
          have d3n : decide (s.size ≤ q) = true := decide_eq_true (by omega)
          have hno : txtL (rest s q) = none := by rw [rest_nil s q (by omega)]; rfl
          have HRQ : Hid (rest s q = rest s q) := rfl
          clear a1
          have HBD : Hid (textR s p = badT) := by
            have h34 := H34.out
            unfold Hid textR
            rw [if_pos h34, HTX.out, hno, map_none]
          go_wp2_with fail
          go_ret2
          exact ⟨by rw [HBD.out]; rfl, BW.out⟩
    · have z1 : ((c0.toNat : Int) != 34) = true := by rw [bne_iff_ne]; omega
      have HBD : Hid (textR s p = badT) := by
        unfold Hid textR
        rw [if_neg]
        rw [hrc, List.head?_cons]
        intro e
        injection e with e
        exact z0 (by rw [e]; exact byte_nat 34 (by omega))
      clear z0 hrc hp hs HR
      go_enter Tryd.func51, Tryd.ntmps51
      go_wp2_with fail
      go_ret2
      exact ⟨by rw [HBD.out]; rfl, Below.refl _ _⟩
  · have d1 : decide ((s.size : Int) ≤ (p : Int)) = true := decide_eq_true (by omega)
    have d1n : decide (s.size ≤ p) = true := decide_eq_true (by omega)
    have HBD : Hid (textR s p = badT) := by
      unfold Hid textR
      rw [if_neg]
      rw [rest_nil s p (by omega)]
      intro e
      cases e
    clear a1 hp hs HR
    go_enter Tryd.func51, Tryd.ntmps51
    go_wp2_with fail
    go_ret2
    exact ⟨by rw [HBD.out]; rfl, Below.refl _ _⟩
end Go.Proofs.YtmandanmndmnhaaDoor.Tre
