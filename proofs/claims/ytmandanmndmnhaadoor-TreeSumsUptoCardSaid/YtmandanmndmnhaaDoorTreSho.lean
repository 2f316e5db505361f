/-
  The document's own Show of trees, and half. Conditions: texts of at most 2^46 bytes.
-/
import Derived.Test.YtmandanmndmnhaaDoorTreShw
namespace Go.Proofs.YtmandanmndmnhaaDoor.Tre
open Tks Go.RowKit
set_option linter.unusedSimpArgs false
set_option linter.unusedVariables false

set_option maxRecDepth 1000000 in
set_option maxHeartbeats 8000000 in
theorem refShow_any (h : Hd) (k : Fo) (v : Value) (w : World) (ha : NdArg w v h k) (hlen : rightN h (len k) (rightF k) = true → (nodeT h (showF k)).length ≤ 70368744177664) :
    Calls Tryd.prog 21 #[v] w fun e w' => e = .returned (.tuple (if rightN h (len k) (rightF k) = true then #[.string ⟨(nodeT h (showF k)).toArray⟩, .int .i64 0] else #[.string ⟨#[]⟩, .int .i64 100])) ∧ Below w.heap.size w w' := by
  have HN := Lib.hid ha
  have C1 := Lib.hid (fun W hW => refright_any h k v W hW)
  have C2 := Lib.hid (fun (W : World) (hW : Below w.heap.size w W) hr hl => refshow_any h k v (.slice none 0 0) w W W.heap.size [] ha hW.size hW (World.ownsRow_nil _ _ _ _) (Nat.le_refl _) hr hl)
  obtain ⟨ka, rfl, hka⟩ := ha
  obtain ⟨pa, qa, rfl⟩ := hka.len
  have HL := Lib.hid hlen
  unfold ndV at C1 C2 HN ⊢
  clear hka hlen
  obtain ⟨ok, hok⟩ : ∃ ok, rightN h (len k) (rightF k) = ok := ⟨_, rfl⟩
  rw [hok] at C1 C2 HL ⊢
  clear hok
  obtain ⟨res, hres⟩ : ∃ res, nodeT h (showF k) = res := ⟨_, rfl⟩
  rw [hres] at C2 HL ⊢
  clear hres
  obtain ⟨tu, htu⟩ : ∃ tu : Array Value, (if ok = true then #[.string ⟨res.toArray⟩, .int .i64 0] else #[.string ⟨#[]⟩, .int .i64 100]) = tu := ⟨_, rfl⟩
  rw [htu]
  have HTU := Lib.hid htu
  clear htu
  go_enter Tryd.func21, Tryd.ntmps21
  go_upto_region 1 with fail
  refine gen_world (fun X => Below w.heap.size w X ∧ Lies X w.heap.size (ndO h (.slice pa (len k) qa))) ⟨below_one w _, Lies.new w _⟩ ?_
  rintro X ⟨bX, lX⟩
  have BX := Lib.hid bX
  have LX := Lib.hid lX
  obtain ⟨a0, a1, a2, a3, a4, a5⟩ := lX.node
  have CX := Lib.hid (C1.out X (HN.out.below bX (Nat.le_refl _)))
  clear bX lX C1
  cases ok with
  | false =>
    go_wp2_with (first
      | (go_at_call 36; refine CX.out.mono ?_; rintro e w2 ⟨rfl, b2⟩; have B2 := Lib.hid b2; have L2 := LX.out.below b2 LX.out.lt; clear b2; obtain ⟨a0, a1, a2, a3, a4, a5⟩ := L2.node; clear L2))
    go_ret2
    exact ⟨by rw [← HTU.out]; rfl, afterL BX.out B2.out⟩
  | true =>
    go_wp2_with (first
      | (go_at_call 36; refine CX.out.mono ?_; rintro e w2 ⟨rfl, b2⟩; have B2 := Lib.hid b2; have L2 := LX.out.below b2 LX.out.lt; clear b2; obtain ⟨a0, a1, a2, a3, a4, a5⟩ := L2.node; clear L2)
      | (go_at_call 37; go_loud (refine (C2.out w2 (afterL BX.out B2.out) (by first | rfl | trivial) (by have := HL.out (by first | rfl | trivial); simpa using this)).mono ?_; rintro e w3 ⟨r3, rfl, o3, b3, n3⟩; have B3 := Lib.hid b3; have T3 := o3.text; clear b3 n3 o3; rw [List.nil_append] at T3)))
    go_ret2
    exact ⟨by rw [← HTU.out]; rfl, (afterL BX.out B2.out).trans (B3.out.mono (afterL BX.out B2.out).size)⟩
theorem refhalf_any (c : UInt8) (w : World) : Calls Tryd.prog 55 #[.int .u8 (c.toNat : Int)] w fun e w' => e = .returned (.int .i64 (if halfL c < 16 then (halfL c : Int) else -1)) ∧ w' = w := by
  have hc := nat_lt c
  have hv : halfL c = if 48 ≤ c.toNat ∧ c.toNat ≤ 57 then c.toNat - 48 else if 97 ≤ c.toNat ∧ c.toNat ≤ 102 then c.toNat - 87 else 16 := by
    unfold halfL isDig
    by_cases h1 : 48 ≤ c.toNat ∧ c.toNat ≤ 57
    · rw [if_pos h1, decide_eq_true h1.1, decide_eq_true h1.2]
      rfl
    · rw [if_neg h1, if_neg]
      simp only [Bool.and_eq_true, decide_eq_true_eq]
      exact h1
  have y1 : wrap64 (c.toNat : Int) = (c.toNat : Int) := IntWalk.wrap64_in _ ⟨by omega, by omega⟩
  have y2 : wrap64 ((c.toNat : Int) - 48) = (c.toNat : Int) - 48 := IntWalk.wrap64_in _ ⟨by omega, by omega⟩
  have y3 : wrap64 ((c.toNat : Int) - 87) = (c.toNat : Int) - 87 := IntWalk.wrap64_in _ ⟨by omega, by omega⟩
  obtain ⟨res, hres⟩ : ∃ res : Int, (if halfL c < 16 then (halfL c : Int) else -1) = res := ⟨_, rfl⟩
  rw [hres]
  have HR := Lib.hid hres
  have HV := Lib.hid hv
  clear hres hv
  by_cases h1 : 48 ≤ c.toNat
  · have d1 : decide ((48 : Int) ≤ (c.toNat : Int)) = true := decide_eq_true (by omega)
    by_cases h2 : c.toNat ≤ 57
    · have d2 : decide ((c.toNat : Int) ≤ 57) = true := decide_eq_true (by omega)
      have HF : Hid ((c.toNat : Int) - 48 = res) := by
        unfold Hid
        have e : halfL c = c.toNat - 48 := by rw [HV.out, if_pos ⟨h1, h2⟩]
        rw [← HR.out, e, if_pos (by omega)]
        omega
      clear h1 h2 hc
      go_enter Tryd.func55, Tryd.ntmps55
      go_wp2_with fail
      go_ret
      exact ⟨by show Ending.returned (.int .i64 (wrap64 ((c.toNat : Int) - 48))) = _; rw [y2, HF.out], rfl⟩
    · have d2 : decide ((c.toNat : Int) ≤ 57) = false := decide_eq_false (by omega)
      by_cases h3 : 97 ≤ c.toNat
      · have d3 : decide ((97 : Int) ≤ (c.toNat : Int)) = true := decide_eq_true (by omega)
        by_cases h4 : c.toNat ≤ 102
        · have d4 : decide ((c.toNat : Int) ≤ 102) = true := decide_eq_true (by omega)
          have HF : Hid ((c.toNat : Int) - 87 = res) := by
            unfold Hid
            have e : halfL c = c.toNat - 87 := by rw [HV.out, if_neg (fun q => absurd q.2 (by omega)), if_pos ⟨h3, h4⟩]
            rw [← HR.out, e, if_pos (by omega)]
            omega
          clear h1 h2 h3 h4 hc
          go_enter Tryd.func55, Tryd.ntmps55
          go_wp2_with fail
          go_ret
          exact ⟨by show Ending.returned (.int .i64 (wrap64 ((c.toNat : Int) - 87))) = _; rw [y3, HF.out], rfl⟩
        · have d4 : decide ((c.toNat : Int) ≤ 102) = false := decide_eq_false (by omega)
          have HF : Hid ((-1 : Int) = res) := by
            unfold Hid
            have e : halfL c = 16 := by rw [HV.out, if_neg (fun q => absurd q (by omega)), if_neg (fun q => absurd q (by omega))]
            rw [← HR.out, e, if_neg (by omega)]
          clear h1 h2 h3 h4 hc
          go_enter Tryd.func55, Tryd.ntmps55
          go_wp2_with fail
          go_ret
          exact ⟨by rw [← HF.out]; rfl, rfl⟩
      · have d3 : decide ((97 : Int) ≤ (c.toNat : Int)) = false := decide_eq_false (by omega)
        have HF : Hid ((-1 : Int) = res) := by
          unfold Hid
          have e : halfL c = 16 := by rw [HV.out, if_neg (fun q => absurd q (by omega)), if_neg (fun q => absurd q (by omega))]
          rw [← HR.out, e, if_neg (by omega)]
        clear h1 h2 h3 hc
        go_enter Tryd.func55, Tryd.ntmps55
        go_wp2_with fail
        go_ret
        exact ⟨by rw [← HF.out]; rfl, rfl⟩
  · have d1 : decide ((48 : Int) ≤ (c.toNat : Int)) = false := decide_eq_false (by omega)
    have d3 : decide ((97 : Int) ≤ (c.toNat : Int)) = false := decide_eq_false (by omega)
    have HF : Hid ((-1 : Int) = res) := by
      unfold Hid
      have e : halfL c = 16 := by rw [HV.out, if_neg (fun q => absurd q (by omega)), if_neg (fun q => absurd q (by omega))]
      rw [← HR.out, e, if_neg (by omega)]
    clear h1 hc
    go_enter Tryd.func55, Tryd.ntmps55
    go_wp2_with fail
    go_ret
    exact ⟨by rw [← HF.out]; rfl, rfl⟩
end Go.Proofs.YtmandanmndmnhaaDoor.Tre
