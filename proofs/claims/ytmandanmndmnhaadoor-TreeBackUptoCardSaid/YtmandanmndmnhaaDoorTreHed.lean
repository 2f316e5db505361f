/-
  The program's reader: what stands ahead of kids. Conditions: texts of at most 2^24 bytes.
-/
import Derived.Test.YtmandanmndmnhaaDoorTreChr
namespace Go.Proofs.YtmandanmndmnhaaDoor.Tre
open Tks Go.RowKit
set_option linter.unusedSimpArgs false
set_option linter.unusedVariables false

def HdOut (t : ByteArray) (R : Nat) (w : World) (e : Ending) (w' : World) : Prop :=
  ∃ (h : Hd) (E : Int) (t' : ByteArray), e = .returned (.tuple #[ndV h (.slice none 0 0), .int .i64 E]) ∧ Rd w' R t' ∧ Only R w w' ∧ t'.size ≤ t.size ∧
    (if numL (toL t) < 1 ∨ 54 ≤ numL (toL t) ∨ numL (toL t) = 1 then E = 100 else E = 0 ∧ h = hd0 (numL (toL t)) (bang ((toL t).drop (numE (toL t)))).1 ⟨#[]⟩ ∧ toL t' = (bang ((toL t).drop (numE (toL t)))).2)
theorem Only.fresh {R : Nat} {w w' : World} (h : Only R w w') {b : Nat} (hb : w.heap.size ≤ b) (a c d e f g : Value) : Only R w (set6 w' b a c d e f g) :=
  (((((h.set' (p := ⟨b, 0, none⟩) hb a).set' (p := ⟨b, 1, none⟩) hb c).set' (p := ⟨b, 2, none⟩) hb d).set' (p := ⟨b, 3, none⟩) hb e).set' (p := ⟨b, 4, none⟩) hb f).set' (p := ⟨b, 5, none⟩) hb g
theorem Rd.other {w : World} {R : Nat} {t : ByteArray} (h : Rd w R t) {p : Addr} (hp : R ≠ p.block) (v : Value) : Rd (w.setCell p v) R t := Lies.other h hp v
theorem Rd.set6 {w : World} {R b : Nat} {t : ByteArray} (h : Rd w R t) (hb : R ≠ b) (c0 c1 c2 c3 c4 c5 : Value) : Rd (set6 w b c0 c1 c2 c3 c4 c5) R t :=
  (((((h.other (p := ⟨b, 0, none⟩) hb c0).other (p := ⟨b, 1, none⟩) hb c1).other (p := ⟨b, 2, none⟩) hb c2).other (p := ⟨b, 3, none⟩) hb c3).other (p := ⟨b, 4, none⟩) hb c4).other (p := ⟨b, 5, none⟩) hb c5
set_option maxRecDepth 1000000 in
set_option maxHeartbeats 4000000 in
theorem head_any (t : ByteArray) (hs : t.size ≤ 16777216) (R : Nat) (w : World) (hr : Rd w R t) :
    Calls Tryd.prog 41 #[.pointer (some ⟨R, 0, none⟩)] w (HdOut t R w) := by
  have HRR := Lib.hid hr
  have HS := Lib.hid hs
  have n1 : ¬ R = w.heap.size := by have := hr.lt; omega
  have n2 : ¬ w.heap.size = R := fun e => n1 e.symm
  have CN := Lib.hid (fun (W : World) (hW : Rd W R t) => number_any t hs 54 (by omega) (by omega) R W hW)
  unfold NumOut at CN
  clear hr hs
  go_enter Tryd.func41, Tryd.ntmps41
  go_upto_region 1 with fail
  refine gen_world (fun X => Below w.heap.size w X ∧ Lies X w.heap.size z6 ∧ X.heap.size = w.heap.size + 1) ⟨below_one w _, Lies.new w _, World.size_alloc _ _⟩ ?_
  rintro X ⟨bX, lX, zX⟩
  have LX : Hid (Lies X w.heap.size (ndO ⟨0, 0, ⟨#[]⟩, 0, 0⟩ (.slice none 0 0))) := lX
  have OX : Hid (Only R w X) := Only.of_below bX (Nat.le_refl _)
  have CX := Lib.hid (CN.out X (HRR.out.below bX HRR.out.lt))
  have SX : Hid (w.heap.size < X.heap.size) := by unfold Hid; omega
  clear bX lX zX CN
  go_upto_region 2 with (first
    | (go_at_call 48; refine CX.out.mono ?_; rintro e w2 ⟨v2, t2, rfl, r2, o2, s2, k2⟩; have R2 := Lib.hid r2; have L2 := Lib.hid (o2.lies LX.out n2); have O2 := Lib.hid (OX.out.trans o2); have T2 := Lib.hid s2; have K2 := Lib.hid k2; have S2 : Hid (w.heap.size < w2.heap.size) := (Nat.lt_of_lt_of_le SX.out o2.size); clear r2 o2 s2 k2))
  obtain ⟨⟨c0, c1, c2, c3, c4, c5⟩, f0, f1, f2, f3, f4, f5⟩ := L2.out.nodef
  cases hok : numOk (toL t) 54 with
  | false =>
    have HB : Hid (numL (toL t) < 1 ∨ 54 ≤ numL (toL t) ∨ numL (toL t) = 1) := by
      unfold numOk at hok
      have := of_decide_eq_false hok
      unfold Hid
      omega
    go_wp2_with fail
    refine bodyPost_ret (res_node Tryd.results41 rfl (Lies.all6 L2.out ⟨0, 0, ⟨#[]⟩, 0, 0⟩ (.slice none 0 0))) rfl ?_
    exact ⟨_, 100, t2, rfl, R2.out.set6 n1 _ _ _ _ _ _, O2.out.fresh (Nat.le_refl _) _ _ _ _ _ _, T2.out, by rw [if_pos HB.out]⟩
  | true =>
    obtain ⟨hv, ht2⟩ := K2.out hok
    subst hv
    unfold numOk at hok
    have hrange := of_decide_eq_true hok
    have HT2 := Lib.hid ht2
    clear ht2 K2 hok
    obtain ⟨m0, hm0⟩ : ∃ m0, numL (toL t) = m0 := ⟨_, rfl⟩
    rw [hm0] at hrange ⊢
    have HM0 := Lib.hid hm0
    clear hm0
    by_cases g0 : m0 = 0
    · have q0 : (m0 == 0) = true := beq_iff_eq.2 g0
      have HB : Hid (m0 < 1 ∨ 54 ≤ m0 ∨ m0 = 1) := by unfold Hid; omega
      clear hrange g0
      go_wp2_with fail
      refine bodyPost_ret (res_node Tryd.results41 rfl (Lies.all6 L2.out ⟨0, 0, ⟨#[]⟩, 0, 0⟩ (.slice none 0 0))) rfl ?_
      exact ⟨_, 100, t2, rfl, R2.out.set6 n1 _ _ _ _ _ _, O2.out.fresh (Nat.le_refl _) _ _ _ _ _ _, T2.out, by rw [HM0.out, if_pos HB.out]⟩
    · have q0 : (m0 == 0) = false := beq_eq_false_iff_ne.2 g0
      by_cases g1 : m0 = 1
      · have q1 : (m0 == 1) = true := beq_iff_eq.2 g1
        have HB : Hid (m0 < 1 ∨ 54 ≤ m0 ∨ m0 = 1) := by unfold Hid; omega
        clear hrange g0 g1
        go_wp2_with fail
        refine bodyPost_ret (res_node Tryd.results41 rfl (Lies.all6 L2.out ⟨0, 0, ⟨#[]⟩, 0, 0⟩ (.slice none 0 0))) rfl ?_
        exact ⟨_, 100, t2, rfl, R2.out.set6 n1 _ _ _ _ _ _, O2.out.fresh (Nat.le_refl _) _ _ _ _ _ _, T2.out, by rw [HM0.out, if_pos HB.out]⟩
      · have q1 : (m0 == 1) = false := beq_eq_false_iff_ne.2 g1
        have HB : Hid (¬ (m0 < 1 ∨ 54 ≤ m0 ∨ m0 = 1)) := by unfold Hid; omega
        have HSZ : Hid (t2.size ≤ 16777216) := Nat.le_trans T2.out HS.out
        clear hrange g0 g1
        go_upto_region 5 with fail
        refine gen_world (fun Y => Rd Y R t2 ∧ Only R w Y ∧ Lies Y w.heap.size (ndO ⟨0, 0, ⟨#[]⟩, 0, 0⟩ (.slice none 0 0)) ∧ Lies Y w2.heap.size (ndO (hd0 m0 0 ⟨#[]⟩) (.slice none 0 0))) ⟨R2.out.below (below_one w2 _) R2.out.lt, O2.out.trans (Only.of_below (below_one w2 _) (Nat.le_refl _)), L2.out.alloc _, Lies.new w2 _⟩ ?_
        rintro Y ⟨rY, oY, lY, mY⟩
        generalize hNB : w2.heap.size = NB at *
        have n3 : ¬ NB = R := by have := R2.out.lt; omega
        have n4 : ¬ R = NB := fun e => n3 e.symm
        have n5 : ¬ NB = w.heap.size := by have := S2.out; omega
        have n6 : ¬ w.heap.size = NB := fun e => n5 e.symm
        have HNB : Hid (w.heap.size ≤ NB) := by have := S2.out; unfold Hid; omega
        have CT := Lib.hid (takeZ 33 33 rfl (by omega) t2 HSZ.out R Y rY)
        have OY := Lib.hid oY
        have LY := Lib.hid lY
        have MY := Lib.hid mY
        clear rY oY lY mY hNB c0 c1 c2 c3 c4 c5 f0 f1 f2 f3 f4 f5
        by_cases h33 : (toL t2).head? = some (byte 33)
        · have e1 : headIs t2 (byte 33) = true := decide_eq_true h33
          rw [e1] at CT
          have HBG : Hid (bang ((toL t).drop (numE (toL t))) = (1, toL (after t2 (byte 33)))) := by
            unfold Hid bang
            rw [← HT2.out, if_pos h33, toL_after, if_pos h33]
          clear e1 h33
          go_wp2_with (first
            | (go_at_call 39; refine CT.out.mono ?_; rintro e w3 ⟨rfl, r3, o3⟩; have R3 := Lib.hid r3; have O3 := Lib.hid (OY.out.trans o3); have L3 := Lib.hid (o3.lies LY.out n2); have M3 := Lib.hid (o3.lies MY.out n3); clear r3 o3; obtain ⟨⟨c0, c1, c2, c3, c4, c5⟩, f0, f1, f2, f3, f4, f5⟩ := L3.out.nodef; obtain ⟨⟨e0, e1, e2, e3, e4, e5⟩, g0, g1, g2, g3, g4, g5⟩ := M3.out.nodef))
          have M4 := Lib.hid (M3.out.set1 1)
          refine bodyPost_ret (res_node Tryd.results41 rfl (Lies.all6 (Lies.other L3.out (p := ⟨NB, 1, none⟩) n6 _) (hd0 m0 1 ⟨#[]⟩) (.slice none 0 0))) rfl ?_
          exact ⟨hd0 m0 1 ⟨#[]⟩, 0, after t2 (byte 33), rfl, (R3.out.other (p := ⟨NB, 1, none⟩) n4 _).set6 n1 _ _ _ _ _ _, (O3.out.set' (p := ⟨NB, 1, none⟩) HNB.out _).fresh (Nat.le_refl _) _ _ _ _ _ _, Nat.le_trans (after_size t2 _) T2.out, by rw [HM0.out, if_neg HB.out, HBG.out]; exact ⟨rfl, rfl, rfl⟩⟩
        · have e1 : headIs t2 (byte 33) = false := decide_eq_false h33
          have e2 : after t2 (byte 33) = t2 := by unfold after; rw [if_neg h33]
          rw [e1, e2] at CT
          have HBG : Hid (bang ((toL t).drop (numE (toL t))) = (0, toL t2)) := by
            unfold Hid bang
            rw [← HT2.out, if_neg h33]
          clear e1 e2 h33
          go_wp2_with (first
            | (go_at_call 39; refine CT.out.mono ?_; rintro e w3 ⟨rfl, r3, o3⟩; have R3 := Lib.hid r3; have O3 := Lib.hid (OY.out.trans o3); have L3 := Lib.hid (o3.lies LY.out n2); have M3 := Lib.hid (o3.lies MY.out n3); clear r3 o3; obtain ⟨⟨c0, c1, c2, c3, c4, c5⟩, f0, f1, f2, f3, f4, f5⟩ := L3.out.nodef; obtain ⟨⟨e0, e1, e2, e3, e4, e5⟩, g0, g1, g2, g3, g4, g5⟩ := M3.out.nodef))
          refine bodyPost_ret (res_node Tryd.results41 rfl (Lies.all6 L3.out (hd0 m0 0 ⟨#[]⟩) (.slice none 0 0))) rfl ?_
          exact ⟨hd0 m0 0 ⟨#[]⟩, 0, t2, rfl, R3.out.set6 n1 _ _ _ _ _ _, O3.out.fresh (Nat.le_refl _) _ _ _ _ _ _, T2.out, by rw [HM0.out, if_neg HB.out, HBG.out]; exact ⟨rfl, rfl, rfl⟩⟩
end Go.Proofs.YtmandanmndmnhaaDoor.Tre
