/-
  The program's own Show of trees, from outside. Conditions: texts of at most 2^46 bytes.
-/
import Derived.Test.YtmandanmndmnhaaDoorTreShp
namespace Go.Proofs.YtmandanmndmnhaaDoor.Tre
open Tks Go.RowKit
open Qt (Bld)
set_option linter.unusedSimpArgs false
set_option linter.unusedVariables false

theorem bld_new (w : World) : Bld w.heap.size w.heap.size [] (w.alloc (.cells #[.pointer none, .slice none 0 0] 46)) := Lib.IsBuilderF.of (Lib.fresh_isBuilder 46 5 w)
theorem bld_set {B b F : Nat} {bs : List UInt8} {w : World} {x v : Value} {t : TypeId} (h : Bld B b bs w) (hf : One w F x t) (h1 : t ≠ 46) (h2 : t ≠ 5) : Bld B b bs (w.setCell ⟨F, 0, none⟩ v) := by
  refine Qt.builder_kept h (fun k c t' fz hk ht => ?_)
  have hne : k ≠ F := fun e => by
    subst e
    rw [show w.heap[k]? = _ from hf] at hk
    injection hk with hk
    injection hk with _ e2 _
    rcases ht with q | q
    · exact h1 (e2.trans q)
    · exact h2 (e2.trans q)
  exact (heap_set (p := ⟨F, 0, none⟩) hne).trans hk
set_option maxRecDepth 1000000 in
set_option maxHeartbeats 4000000 in
theorem Show_any (h : Hd) (k : Fo) (v : Value) (w : World) (hn : NdArg w v h k) (hlen : (nodeT h (showF k)).length ≤ 70368744177664) :
    Calls Tryd.prog 20 #[v] w fun e w' => e = .returned (.tuple (if rightN h (len k) (rightF k) = true then #[.string ⟨(nodeT h (showF k)).toArray⟩, .int .i64 0] else #[.string ⟨#[]⟩, .int .i64 100])) ∧ Below w.heap.size w w' := by
  have HN := Lib.hid hn
  obtain ⟨vk, rfl, hk⟩ := hn
  obtain ⟨a, c, rfl⟩ := hk.len
  have CC := Lib.hid (fun (W : World) (S F B : Nat) h1 h2 h3 h4 h5 h6 h7 h8 => show_any h k _ w W [] S F B HN.out h1 h2 h3 h4 h5 h6 h7 h8 (by simpa using hlen))
  rw [List.nil_append] at CC
  obtain ⟨ok, hok⟩ : ∃ ok, rightN h (len k) (rightF k) = ok := ⟨_, rfl⟩
  rw [hok] at CC ⊢
  obtain ⟨res, hres⟩ : ∃ res, nodeT h (showF k) = res := ⟨_, rfl⟩
  rw [hres] at CC ⊢
  obtain ⟨tu, htu⟩ : ∃ tu : Array Value, (if ok = true then #[.string ⟨res.toArray⟩, .int .i64 0] else #[.string ⟨#[]⟩, .int .i64 100]) = tu := ⟨_, rfl⟩
  rw [htu]
  have HTU := Lib.hid htu
  unfold ndV at CC ⊢
  clear hk hlen hok hres htu
  have mk := makeF
  go_enter Tryd.func20, Tryd.ntmps20
  go_upto_region 3 with fail
  refine gen_world (fun X => Lies X w.heap.size (ndO h (.slice a (len k) c)) ∧ Bld (w.heap.size + 1) (w.heap.size + 1) [] X ∧ One X (w.heap.size + 1 + 1) .nilFunc 31 ∧ Below w.heap.size w X ∧ X.heap.size = w.heap.size + 3) ⟨(three_lie w _ _ _).1, by have := bld_new (w.alloc (ndO h (.slice a (len k) c))); rw [World.size_alloc] at this; exact bld_below this (below_one _ _) (Nat.le_refl _), (three_lie w _ _ _).2.2⟩ ?_
  rintro X ⟨lX, sX, fX, bX, zX⟩
  generalize hS : w.heap.size + 1 = S at *
  generalize hF : S + 1 = F at *
  have n1 : ¬ S = F := by omega
  have n2 : ¬ F = S := by omega
  have n3 : ¬ w.heap.size = F := by omega
  have c0 := fX.c0
  have f0 := fX.free0
  have HSF : Hid (w.heap.size ≤ S ∧ w.heap.size ≤ F ∧ S < F ∧ F < X.heap.size) := by unfold Hid; omega
  have LX := Lib.hid lX
  have OX := Lib.hid sX
  have FX := Lib.hid fX
  have BX := Lib.hid bX
  clear lX sX fX bX zX hS hF
  go_upto_region 4 with fail
  refine gen_world (fun Y => Bld S S [] Y ∧ One Y F (fnV 30 S F) 31 ∧ Lies Y w.heap.size (ndO h (.slice a (len k) c)) ∧ Below w.heap.size w Y ∧ X.heap.size = Y.heap.size) ⟨bld_set OX.out FX.out (by decide) (by decide), FX.out.set _, Lies.other LX.out n3 _, BX.out.setCell (p := ⟨F, 0, none⟩) HSF.out.2.1 _, by rw [World.size_setCell]⟩ ?_
  rintro Y ⟨sY, fY, lY, bY, zY⟩
  obtain ⟨a0, a1, a2, a3, a4, a5⟩ := lY.node
  have b0 := fY.c0
  unfold fnV at b0
  have CY := Lib.hid (CC.out Y S F S HSF.out.1 n1 (by have := HSF.out; omega) (by have := HSF.out; omega) (by have := HSF.out; omega) bY sY fY)
  have BY := Lib.hid bY
  have SY : Hid (S ≤ Y.heap.size) := by have := HSF.out; unfold Hid; omega
  clear c0 f0 sY fY lY bY zY LX OX FX BX CC
  cases ok with
  | false =>
    go_wp2_with (first
      | (go_at_call 30; refine CY.out.mono ?_; rintro e w6 ⟨ok6, rfl, rfl, -, k6⟩; have B6 := Lib.hid (BY.out.trans (k6.bel.mono HSF.out.1)); clear k6))
    go_ret2
    exact ⟨by rw [← HTU.out]; rfl, B6.out⟩
  | true =>
    go_wp2_with (first
      | (go_at_call 30; refine CY.out.mono ?_; rintro e w6 ⟨ok6, rfl, rfl, d6, k6⟩; have D6 := Lib.hid (d6 rfl); have B6 := Lib.hid (BY.out.trans (k6.bel.mono HSF.out.1)); have SY6 : Hid (S ≤ w6.heap.size) := Nat.le_trans SY.out k6.size; clear k6 d6)
      | (go_at_call 35; refine (Qt.bstr_any S S res w6 D6.out SY6.out).mono ?_; rintro e w7 ⟨rfl, b7⟩; have B7 := Lib.hid (B6.out.trans (b7.mono HSF.out.1)); clear b7))
    go_ret2
    exact ⟨by rw [← HTU.out]; rfl, B7.out⟩
end Go.Proofs.YtmandanmndmnhaaDoor.Tre
