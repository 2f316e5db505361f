/-
  The law TypeAgain, walked. Conditions: the string has at most 2^47 - 4096 bytes; the program's list of names stands.
-/
import Derived.Test.YtmgclgojmckfhaaGreatDoorZAgl
namespace Go.Proofs.YtmgclgojmckfhaaGreatDoor.Typ
open Tks Tre Go.RowKit
open Lay (Sx StV Fit9 nextS NextOut tkV9 IntArg Kp)
set_option linter.unusedSimpArgs false
set_option linter.unusedVariables false

theorem at_on {w : World} {va : Option Addr} {vc : Nat} {l : List Tk} (h : TkArg w (.slice va l.length vc) l) : StOn w (fun _ => True) (.slice va l.length vc) (.slice none 0 0) (at' l 0) := StOn.of h (.inl ⟨rfl, _, _, rfl⟩) (fun _ _ => trivial)
theorem at_fits {l : List Tk} (h : l.length ≤ 16777216) : Fits big (at' l 0) := ⟨by show l.length ≤ big; unfold big; omega, by show ([] : List Int).length + (l.length - _) ≤ big; unfold big; rw [List.length_nil]; omega⟩
/-- Full at a row's beginning. -/
theorem full_at {w : World} {va : Option Addr} {vc : Nat} {l : List Tk} (deep : Int) (h : TkArg w (.slice va l.length vc) l) (hl : l.length ≤ 16777216) :
    Calls Tryz.prog 6 #[.agg #[.slice va l.length vc, .int .i64 0, .slice none 0 0, .int .i64 0], .int .i64 deep] w (TOut (fullS (at' l 0) deep) (fun _ => True) w) :=
  prog_full deep (fun _ => True) _ _ (at' l 0) w (at_on h) (at_fits hl) (fun _ _ => trivial)
set_option maxRecDepth 1000000 in
set_option maxHeartbeats 4000000 in
theorem again_walk (s : ByteArray) (deep : Int) (hs : s.size ≤ 140737488351232) (w : World) (hN : Qt.Nam w) :
    Calls Tryz.prog 3 #[.string s, .int .i64 deep] w fun e w' => e = .returned (.bool true) ∧ Below w.heap.size w w' := by
  have CA := Lib.hid (fun W => tawake_any W)
  have HN := Lib.hid hN
  clear hN
  by_cases hz : s.size ≤ 2000
  rotate_left
  · have x1 : decide ((2000 : Int) < (s.size : Int)) = true := decide_eq_true (by omega)
    clear HN
    go_enter Tryz.func3, Tryz.ntmps3
    go_wp2_with fail
    refine (CA.out _).mono ?_
    rintro e w1 ⟨rfl, hb1⟩
    have HB1 := Lib.hid hb1
    clear hb1
    go_wp2_with fail
    go_ret
    exact ⟨rfl, HB1.out⟩
  have x1 : decide ((2000 : Int) < (s.size : Int)) = false := decide_eq_false (by omega)
  have C1 := Lib.hid (fun W hN => Lx.lex_any s (by omega) W hN)
  by_cases he : Lx.errS s = 0
  rotate_left
  · obtain ⟨x, hx⟩ : ∃ x, x = Lx.errS s := ⟨_, rfl⟩
    unfold Lx.LexOut4 at C1
    rw [← hx] at he
    have x2 : (x != 0) = true := bne_iff_ne.2 he
    have HX := Lib.hid hx
    clear hx he hz hs
    go_enter Tryz.func3, Tryz.ntmps3
    go_wp2_with fail
    refine (CA.out _).mono ?_
    rintro e w1 ⟨rfl, hb1⟩
    have HB1 := Lib.hid hb1
    have N1 := Lib.hid (HN.out.below hb1 (Nat.le_refl _))
    clear hb1
    go_wp2_with fail
    refine (C1.out _ N1.out).mono ?_
    rintro e w2 ⟨vt, vn, rfl, ht, hn, hb2, -⟩
    have HB2 := Lib.hid (HB1.out.trans (hb2.mono HB1.out.size))
    rw [← HX.out]
    obtain ⟨ta, tc, rfl⟩ := Lx.own_len6 ht
    clear ht hn hb2
    go_wp2_with fail
    go_ret
    exact ⟨rfl, HB2.out⟩
  have HE := Lib.hid he
  have CF := Lib.hid (fun (W : World) (va : Option Addr) (vc : Nat) h => full_at (w := W) (va := va) (vc := vc) (l := lexT s) deep h (by rw [lexT_len]; exact Lx.toks_bd2 s))
  have HM := Lib.hid (fun h => again_math s deep hz he h)
  have HT : Hid (∀ W B v, Lx.Toks s W B v (Lx.toksL (Lx.itemsS s)) → TkArg W v (lexT s)) := fun W B v h => cv_arg h.arg
  generalize lexT s = l at *
  generalize fullS (at' l 0) deep = x at *
  unfold TOut ndV stV at CF
  clear he hz hs
  by_cases hx : x.e = 0
  rotate_left
  · have x2 : (x.e != 0) = true := bne_iff_ne.2 hx
    clear hx HM
    go_enter Tryz.func3, Tryz.ntmps3
    go_wp2_with fail
    refine (CA.out _).mono ?_
    rintro e w1 ⟨rfl, hb1⟩
    have HB1 := Lib.hid hb1
    have N1 := Lib.hid (HN.out.below hb1 (Nat.le_refl _))
    clear hb1
    go_wp2_with fail
    refine (C1.out _ N1.out).mono ?_
    rintro e w2 ⟨vt, vn, rfl, ht, hn, hb2, -⟩
    have HB2 := Lib.hid (HB1.out.trans (hb2.mono HB1.out.size))
    rw [HE.out]
    have A2 := HT.out _ _ _ ht
    obtain ⟨ta, tc, rfl⟩ := A2.len
    have C2 := Lib.hid (CF.out _ _ _ A2)
    clear ht hn hb2 A2
    go_wp2_with fail
    refine C2.out.mono ?_
    rintro e w3 ⟨ka3, kc3, ta3, tc3, oa3, oc3, rfl, k3, s3, b3⟩
    have HB3 := Lib.hid (afterL HB2.out b3)
    clear k3 s3 b3
    go_upto_region 8 with fail
    refine gen_world (fun Y => Below w.heap.size w Y) ?_ ?_
    · exact afterL HB3.out (below_two' w3 (ndO x.h (.slice ka3 (len x.k) kc3)) (stB (.slice ta3 x.s.toks.length tc3) x.s.at_ (.slice oa3 x.s.opn.length oc3) x.s.wait))
    intro Y hY
    have HY := Lib.hid hY
    clear hY
    go_wp2_with fail
    go_ret
    exact ⟨rfl, HY.out⟩
  obtain ⟨ls, m1, m2, m3, m4, m5, m6, m7, m8⟩ := HM.out hx
  have CL := Lib.hid (fun (v : Value) (W : World) (hn : NdArg W v x.h x.k) => Leaves_any x.h x.k v W hn (by rw [m1, List.length_map]; omega))
  rw [m1] at CL
  have CP := Lib.hid (fun (v : Value) (W : World) h => Lx.spell_any v ls W h (by omega) (by omega))
  have C3 := Lib.hid (fun W hN => Lx.lex_any (Lx.spellT ls) (by omega) W hN)
  have HT3 : Hid (∀ W B v, Lx.Toks (Lx.spellT ls) W B v (Lx.toksL (Lx.itemsS (Lx.spellT ls))) → TkArg W v (lexT (Lx.spellT ls))) := fun W B v h => cv_arg h.arg
  have CG := Lib.hid (fun (W : World) (va : Option Addr) (vc : Nat) h => full_at (w := W) (va := va) (vc := vc) (l := lexT (Lx.spellT ls)) deep h (by rw [lexT_len]; exact Lx.toks_bd2 _))
  have HE3 := Lib.hid m5
  unfold Lx.LexOut4 at C3
  generalize Lx.spellT ls = t at *
  generalize lexT t = m at *
  generalize fullS (at' m 0) deep = y at *
  have CS := Lib.hid (fun (va vb : Value) (W : World) (ha : NdArg W va y.h y.k) (hb : NdArg W vb x.h x.k) => Same_any y.h x.h y.k x.k va vb W ha hb)
  rw [m8] at CS
  unfold TOut ndV stV at CG
  rw [m6, m7] at CG
  rw [hx] at CF
  unfold NdArg ndV at CS CL
  clear hx HM m1 m2 m3 m4 m5 m6 m7 m8
  go_enter Tryz.func3, Tryz.ntmps3
  go_wp2_with fail
  refine (CA.out _).mono ?_
  rintro e w1 ⟨rfl, hb1⟩
  have HB1 := Lib.hid hb1
  have N1 := Lib.hid (HN.out.below hb1 (Nat.le_refl _))
  clear hb1
  go_wp2_with fail
  refine (C1.out _ N1.out).mono ?_
  rintro e w2 ⟨vt, vn, rfl, ht, hn, hb2, -⟩
  have HB2 := Lib.hid (HB1.out.trans (hb2.mono HB1.out.size))
  have N2 := N1.out.below hb2 (Nat.le_refl _)
  rw [HE.out]
  have A2 := HT.out _ _ _ ht
  obtain ⟨ta, tc, rfl⟩ := A2.len
  have C2 := Lib.hid (CF.out _ _ _ A2)
  have HN2 := Lib.hid N2
  clear ht hn hb2 A2 N2 CF C1 HT
  go_wp2_with fail
  refine C2.out.mono ?_
  rintro e w3 ⟨ka3, kc3, ta3, tc3, oa3, oc3, rfl, k3, s3, b3⟩
  have HB3 := Lib.hid (afterL HB2.out b3)
  have N3 := Lib.hid (HN2.out.below b3 (Nat.le_refl _))
  have K3 := Lib.hid k3
  clear k3 s3 b3
  go_upto_region 8 with fail
  refine gen_world (fun Y => Below w.heap.size w Y ∧ Qt.Nam Y ∧ Lies Y w3.heap.size (ndO x.h (.slice ka3 (len x.k) kc3)) ∧ KOn Y (fun _ => True) (.slice ka3 (len x.k) kc3) x.k) ?_ ?_
  · have b4 := below_two' w3 (ndO x.h (.slice ka3 (len x.k) kc3)) (stB (.slice ta3 x.s.toks.length tc3) x.s.at_ (.slice oa3 x.s.opn.length oc3) x.s.wait)
    exact ⟨afterL HB3.out b4, N3.out.below b4 (Nat.le_refl _), (two_lie w3 _ _).1, KOn.below K3.out b4 (Nat.le_refl _)⟩
  rintro Y ⟨bY, nmY, nY, kY⟩
  generalize w3.heap.size = M at *
  obtain ⟨d0, d1, d2, d3, d4, d5⟩ := nY.node
  have BY := Lib.hid bY
  have NY := Lib.hid nY
  have KY := Lib.hid kY
  have NM := Lib.hid nmY
  have LY := Lib.hid (CL.out _ Y ⟨_, rfl, kY.arg⟩)
  clear bY nY kY nmY K3 N3 C2 CL HN2 HB2 HB3
  go_wp2_with fail
  refine LY.out.mono ?_
  rintro e w4 ⟨rv, rfl, l4, b4⟩
  have P4 := Lib.hid (CP.out rv w4 (arg_cv l4.arg))
  have B4 := Lib.hid b4
  obtain ⟨ra, rc, hrv⟩ := l4.arg.len
  rw [List.length_map] at hrv
  subst hrv
  clear l4 b4 d0 d1 d2 d3 d4 d5
  go_wp2_with fail
  refine P4.out.mono ?_
  rintro e w5 ⟨rfl, b5⟩
  have B5 := Lib.hid (afterL B4.out b5)
  have N5 := Lib.hid (NM.out.below B5.out (Nat.le_refl _))
  clear b5 B4
  go_wp2_with fail
  refine (C3.out _ N5.out).mono ?_
  rintro e w6 ⟨vt6, vn6, rfl, ht6, hn6, hb6, -⟩
  rw [HE3.out]
  have A6 := HT3.out _ _ _ ht6
  have B6 := Lib.hid (afterL B5.out hb6)
  obtain ⟨ta6, tc6, rfl⟩ := A6.len
  have C6 := Lib.hid (CG.out _ _ _ A6)
  clear ht6 hn6 hb6 A6 CG C3 HT3 B5 N5
  go_wp2_with fail
  refine C6.out.mono ?_
  rintro e w7 ⟨ka7, kc7, ta7, tc7, oa7, oc7, rfl, k7, s7, b7⟩
  have B7 := Lib.hid (afterL B6.out b7)
  have K7 := Lib.hid k7
  clear k7 s7 b7
  go_upto_region 14 with fail
  refine gen_world (fun Z => Below w.heap.size w Z ∧ Lies Z M (ndO x.h (.slice ka3 (len x.k) kc3)) ∧ KOn Z (fun _ => True) (.slice ka3 (len x.k) kc3) x.k ∧ Lies Z w7.heap.size (ndO y.h (.slice ka7 (len y.k) kc7)) ∧ Lies Z (w7.heap.size + 1) (stB (.slice ta7 y.s.toks.length tc7) (m.length : Int) (.slice oa7 y.s.opn.length oc7) y.s.wait) ∧ KOn Z (fun _ => True) (.slice ka7 (len y.k) kc7) y.k) ?_ ?_
  · have b4 := below_two' w7 (ndO y.h (.slice ka7 (len y.k) kc7)) (stB (.slice ta7 y.s.toks.length tc7) (m.length : Int) (.slice oa7 y.s.opn.length oc7) y.s.wait)
    have b5 := afterL B7.out b4
    exact ⟨afterL BY.out b5, NY.out.below b5 NY.out.lt, KOn.below KY.out b5 (Nat.le_refl _), (two_lie w7 _ _).1, (two_lie w7 _ _).2, KOn.below K7.out b4 (Nat.le_refl _)⟩
  rintro Z ⟨bZ, nZ, kZ, mZ, uZ, jZ⟩
  generalize w7.heap.size = M7 at *
  obtain ⟨d0, d1, d2, d3, d4, d5⟩ := nZ.node
  obtain ⟨c0, c1, c2, c3, c4, c5⟩ := mZ.node
  obtain ⟨q0, q1, q2, q3⟩ := four_st uZ
  have BZ := Lib.hid bZ
  have SZ := Lib.hid (CS.out _ _ Z ⟨_, rfl, jZ.arg⟩ ⟨_, rfl, kZ.arg⟩)
  have x3 : ((m.length : Int) == (m.length : Int)) = true := beq_self_eq_true _
  clear bZ nZ kZ mZ uZ jZ CS K7 B7 B6 BY NY KY
  go_wp2_with (first
    | (go_at_call 9; refine SZ.out.mono ?_; rintro e w8 ⟨rfl, b8⟩; have B8 := Lib.hid b8; clear b8))
  go_ret
  exact ⟨rfl, afterL BZ.out B8.out⟩
theorem again_law {p : Prop} (s : ByteArray) (deep : Int) (hs : s.size ≤ 140737488351232) (_ : p) (w : World) (hN : Qt.Nam w) :
    Calls Tryz.prog 3 #[.string s, .int .i64 deep] w fun e w' => e = .returned (.bool true) ∧ Below w.heap.size w w' := again_walk s deep hs w hN
end Go.Proofs.YtmgclgojmckfhaaGreatDoor.Typ
