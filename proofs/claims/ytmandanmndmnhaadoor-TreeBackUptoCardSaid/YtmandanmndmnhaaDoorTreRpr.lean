/-
  The program's own Read of trees. No condition.
-/
import Derived.Test.YtmandanmndmnhaaDoorTreRpg
namespace Go.Proofs.YtmandanmndmnhaaDoor.Tre
open Tks Go.RowKit
set_option linter.unusedSimpArgs false
set_option linter.unusedVariables false

theorem toL_rest (s : ByteArray) : toL s = rest s 0 := rfl
theorem four_lie (w : World) (o1 o2 o3 o4 : Obj) : Lies ((((w.alloc o1).alloc o2).alloc o3).alloc o4) w.heap.size o1 ∧ Lies ((((w.alloc o1).alloc o2).alloc o3).alloc o4) (w.heap.size + 1) o2 ∧ Lies ((((w.alloc o1).alloc o2).alloc o3).alloc o4) (w.heap.size + 1 + 1) o3 ∧ Lies ((((w.alloc o1).alloc o2).alloc o3).alloc o4) (w.heap.size + 1 + 1 + 1) o4 ∧ Below w.heap.size w ((((w.alloc o1).alloc o2).alloc o3).alloc o4) ∧ ((((w.alloc o1).alloc o2).alloc o3).alloc o4).heap.size = w.heap.size + 4 := by
  obtain ⟨h1, h2, h3, h4, h5⟩ := three_lie w o1 o2 o3
  have h6 := Lies.new (((w.alloc o1).alloc o2).alloc o3) o4
  rw [h5] at h6
  exact ⟨h1.alloc _, h2.alloc _, h3.alloc _, h6, afterL h4 (below_one _ o4), by rw [World.size_alloc, h5]⟩
set_option maxRecDepth 1000000 in
set_option maxHeartbeats 4000000 in
theorem Read_any (s : ByteArray) (w : World) : Calls Tryd.prog 22 #[.string s] w (ROut s w) := by
  by_cases hs : 16777216 < s.size
  · have d1 : decide ((16777216 : Int) < (s.size : Int)) = true := decide_eq_true (by omega)
    have d1n : decide (16777216 < s.size) = true := decide_eq_true hs
    have HR : Hid (readS s = .error 3) := by
      unfold Hid readS
      rw [if_pos hs]
    clear hs
    go_enter Tryd.func22, Tryd.ntmps22
    go_wp2_with fail
    refine bodyPost_ret (res_node Tryd.results22 rfl (Lies.new w z6)) rfl ?_
    exact .bad rfl (below_one w _) HR.out
  · have d1 : decide ((16777216 : Int) < (s.size : Int)) = false := decide_eq_false (by omega)
    have d1n : decide (16777216 < s.size) = false := decide_eq_false hs
    have HS := Lib.hid hs
    have CC := Lib.hid (fun (R V F : Nat) (W : World) h1 h2 h3 h4 h5 => readp_any s (by omega) 0 R V F W (by omega) h1 h2 h3 h4 h5)
    have mk := makeF
    clear hs
    go_enter Tryd.func22, Tryd.ntmps22
    go_upto_region 5 with fail
    refine gen_world (fun X => Lies X w.heap.size z6 ∧ Lies X (w.heap.size + 1) (.cells #[.string s] 55) ∧ Lies X (w.heap.size + 1 + 1) (.cells #[.pointer (some ⟨w.heap.size + 1, 0, none⟩)] 53) ∧ Lies X (w.heap.size + 1 + 1 + 1) (.cells #[.nilFunc] 56) ∧ Below w.heap.size w X ∧ X.heap.size = w.heap.size + 4) (four_lie w _ _ _ _) ?_
    rintro X ⟨lX, rX, vX, fX, bX, zX⟩
    generalize hR : w.heap.size + 1 = R at *
    generalize hV : R + 1 = V at *
    generalize hF : V + 1 = F at *
    have n1 : ¬ V = R := by omega
    have n2 : ¬ F = R := by omega
    have n3 : ¬ w.heap.size = F := by omega
    have n4 : ¬ R = F := by omega
    have n5 : ¬ V = F := by omega
    have n6 : ¬ w.heap.size = R := by omega
    have n7 : ¬ R = w.heap.size := by omega
    have HSF : Hid (w.heap.size < R ∧ R < V ∧ V < F ∧ F < X.heap.size) := by unfold Hid; omega
    have c0 := (show One X F _ _ from fX).c0
    have f0 := (show One X F _ _ from fX).free0
    have LX := Lib.hid lX
    have RX := Lib.hid rX
    have VX := Lib.hid vX
    have FX := Lib.hid fX
    have BX := Lib.hid bX
    clear lX rX vX fX bX zX hR hV hF
    go_upto_region 6 with fail
    refine gen_world (fun Y => Lies Y w.heap.size (ndO ⟨0, 0, ⟨#[]⟩, 0, 0⟩ (.slice none 0 0)) ∧ Rd Y R s ∧ One Y V (.pointer (some ⟨R, 0, none⟩)) 53 ∧ One Y F (fnR V F) 56 ∧ Below w.heap.size w Y ∧ X.heap.size = Y.heap.size) ⟨Lies.other LX.out n3 _, Lies.other RX.out n4 _, Lies.other VX.out n5 _, One.set FX.out _, BX.out.setCell (p := ⟨F, 0, none⟩) (by have := HSF.out; show w.heap.size ≤ F; omega) _, by rw [World.size_setCell]⟩ ?_
    rintro Y ⟨lY, rY, vY, fY, bY, zY⟩
    have b0 := fY.c0
    unfold fnR at b0
    have CY := Lib.hid (CC.out R V F Y n1 n2 rY vY fY)
    unfold RpOut ndV at CY
    have BY := Lib.hid bY
    have LY := Lib.hid lY
    have VY := Lib.hid vY
    have SY : Hid (F < Y.heap.size) := by have := HSF.out; unfold Hid; omega
    clear c0 f0 lY rY vY fY bY zY LX RX VX FX BX CC
    go_upto_region 7 with (first
      | (go_at_call 38; refine CY.out.mono ?_; rintro e w6 ⟨h1, k1, sa, sn, sc, E, t6, rfl, kon, r6, o6, s6, g6⟩; have K6 := Lib.hid kon; have R6 := Lib.hid r6; have L6 := Lib.hid (o6.lies LY.out n6); have V6 := Lib.hid (one_only o6 VY.out n1); have G6 := Lib.hid g6; have B6 := Lib.hid (o6.below BY.out (by have := HSF.out; have := SY.out; omega) (by have := HSF.out; omega)); have S6 : Hid (F < w6.heap.size) := Nat.lt_of_lt_of_le SY.out o6.size; clear kon r6 o6 s6 g6))
    generalize hNB : w6.heap.size = NB at *
    refine gen_world (fun Z => Lies Z w.heap.size (ndO ⟨0, 0, ⟨#[]⟩, 0, 0⟩ (.slice none 0 0)) ∧ Rd Z R t6 ∧ One Z V (.pointer (some ⟨R, 0, none⟩)) 53 ∧ Lies Z NB (ndO h1 (.slice sa sn sc)) ∧ KOn Z (fun b => Y.heap.size ≤ b) (.slice sa sn sc) k1 ∧ Below w.heap.size w Z) ⟨L6.out.alloc _, R6.out.below (below_one w6 _) R6.out.lt, Lies.alloc V6.out _, by rw [← hNB]; exact Lies.new w6 _, K6.out.below (below_one w6 _) (Nat.le_refl _), B6.out.alloc (by rw [hNB]; have := S6.out; have := HSF.out; omega) _⟩ ?_
    rintro Z ⟨lZ, rZ, vZ, nZ, kZ, bZ⟩
    have n8 : ¬ NB = w.heap.size := by have := S6.out; have := HSF.out; omega
    have LZ := Lib.hid lZ
    have KZ := Lib.hid kZ
    have BZ := Lib.hid bZ
    obtain ⟨⟨c0, c1, c2, c3, c4, c5⟩, f0, f1, f2, f3, f4, f5⟩ := lZ.nodef
    obtain ⟨e0, e1, e2, e3, e4, e5⟩ := nZ.node
    have v0 := vZ.c0
    have r0 := rZ.c0
    have hg := G6.out
    unfold GotP at hg
    rw [toL_rest s] at hg
    clear lZ rZ vZ nZ kZ bZ hNB G6 CY L6 R6 V6 K6 B6
    cases hrt : readT (0 + 1) (rest s 0) with
    | error x =>
      rw [hrt] at hg
      have hg : E = codeE x := hg
      subst hg
      have HR : Hid (readS s = .error (codeE x)) := by
        unfold Hid codeE
        exact readS_error HS.out hrt
      obtain ⟨E2, hE2⟩ : ∃ E2, codeE x = E2 := ⟨_, rfl⟩
      have hne := codeE_ne x
      rw [hE2] at HR hne ⊢
      have q1 : (E2 == (0 : Int)) = false := beq_eq_false_iff_ne.2 hne
      have q2 : (E2 != (0 : Int)) = true := bne_iff_ne.2 hne
      clear hrt hE2 hne
      go_wp2_with fail
      refine bodyPost_ret (res_node Tryd.results22 rfl (Lies.all6 LZ.out ⟨0, 0, ⟨#[]⟩, 0, 0⟩ (.slice none 0 0))) rfl ?_
      exact .bad rfl (set6_below BZ.out (Nat.le_refl _) _ _ _ _ _ _) HR.out
    | ok p =>
      obtain ⟨h2, k2, q⟩ := p
      rw [hrt] at hg
      obtain ⟨rfl, rfl, rfl, hq⟩ := hg
      have HR0 := Lib.hid (readS_ok HS.out hrt)
      by_cases g1 : q = []
      · have x0 : (t6.toList == []) = true := by rw [Lib.toList_data, beq_iff_eq]; exact hq.trans g1
        have x1 : (t6.toList != []) = false := by rw [bne, x0]; rfl
        have HR : Hid (readS s = .ok (h1, k1)) := by
          unfold Hid
          rw [HR0.out, if_pos g1]
        clear hrt g1 hq HR0
        go_wp2_with fail
        refine bodyPost_ret (res_node Tryd.results22 rfl (Lies.all6 LZ.out h1 (.slice sa sn sc))) rfl ?_
        exact ⟨h1, k1, sa, sn, sc, 0, rfl, (KZ.out.set6 (fun b hb => by have := HSF.out; have := SY.out; omega) _ _ _ _ _ _).less (fun b hb => by have := HSF.out; have := SY.out; omega), set6_below BZ.out (Nat.le_refl _) _ _ _ _ _ _, by unfold Told; rw [HR.out]; exact ⟨rfl, rfl, rfl⟩⟩
      · have x0 : (t6.toList == []) = false := by rw [Lib.toList_data, beq_eq_false_iff_ne]; exact fun e => g1 (hq.symm.trans e)
        have x1 : (t6.toList != []) = true := by rw [bne, x0]; rfl
        have HR : Hid (readS s = .error 100) := by
          unfold Hid
          rw [HR0.out, if_neg g1]
        clear hrt g1 hq HR0
        go_wp2_with fail
        refine bodyPost_ret (res_node Tryd.results22 rfl (Lies.all6 LZ.out ⟨0, 0, ⟨#[]⟩, 0, 0⟩ (.slice none 0 0))) rfl ?_
        exact .bad rfl (set6_below BZ.out (Nat.le_refl _) _ _ _ _ _ _) HR.out
end Go.Proofs.YtmandanmndmnhaaDoor.Tre
