/-
  The document's own Read of trees. No condition.
-/
import Derived.Test.YtmandanmndmnhaaDoorTreRdd
namespace Go.Proofs.YtmandanmndmnhaaDoor.Tre
open Tks Go.RowKit
set_option linter.unusedSimpArgs false
set_option linter.unusedVariables false

def zeroH : Hd := ⟨0, 0, ⟨#[]⟩, 0, 0⟩
/-- What Read tells of a text: its tree, or why there is none. -/
def readS (s : ByteArray) : Except Int (Hd × Fo) :=
  if 16777216 < s.size then .error 3 else match readT 1 (rest s 0) with
    | .error e => .error (if e = -2 then 2 else 100)
    | .ok (h, k, q) => if q = [] then .ok (h, k) else .error 100
def Told (s : ByteArray) (E : Int) (h : Hd) (k : Fo) : Prop :=
  match readS s with
  | .ok (h', k') => h = h' ∧ k = k' ∧ E = 0
  | .error x => E = x ∧ h = zeroH ∧ k = .nil
def ROut (s : ByteArray) (w : World) (e : Ending) (w' : World) : Prop :=
  ∃ h k a n c E, e = .returned (.tuple #[ndV h (.slice a n c), .int .i64 E]) ∧ KOn w' (fun b => w.heap.size ≤ b) (.slice a n c) k ∧ Below w.heap.size w w' ∧ Told s E h k
theorem ROut.bad {s : ByteArray} {w w' : World} {E : Int} {e : Ending} (he : e = .returned (.tuple #[ndV zeroH (.slice none 0 0), .int .i64 E])) (hb : Below w.heap.size w w') (hr : readS s = .error E) : ROut s w e w' :=
  ⟨_, .nil, none, 0, 0, E, he, KOn.nil .., hb, by unfold Told; rw [hr]; exact ⟨rfl, rfl, rfl⟩⟩
theorem readS_error {s : ByteArray} {e : Int} (hs : ¬ 16777216 < s.size) (h : readT 1 (rest s 0) = .error e) : readS s = .error (if e = -2 then 2 else 100) := by
  unfold readS
  rw [if_neg hs, h]
theorem readS_ok {s : ByteArray} {h : Hd} {k : Fo} {q : List UInt8} (hs : ¬ 16777216 < s.size) (e : readT 1 (rest s 0) = .ok (h, k, q)) : readS s = if q = [] then .ok (h, k) else .error 100 := by
  unfold readS
  rw [if_neg hs, e]
theorem rest_full (s : ByteArray) : (rest s 0).length = s.size := by
  rw [rest_len]
  omega
set_option maxRecDepth 1000000 in
set_option maxHeartbeats 4000000 in
theorem refRead_any (s : ByteArray) (w : World) : Calls Tryd.prog 23 #[.string s] w (ROut s w) := by
  by_cases hs : 16777216 < s.size
  · have d1 : decide ((16777216 : Int) < (s.size : Int)) = true := decide_eq_true (by omega)
    have d1n : decide (16777216 < s.size) = true := decide_eq_true hs
    have HR : Hid (readS s = .error 3) := by
      unfold Hid readS
      rw [if_pos hs]
    clear hs
    go_enter Tryd.func23, Tryd.ntmps23
    go_wp2_with fail
    refine bodyPost_ret (res_node Tryd.results23 rfl (Lies.new w z6)) rfl ?_
    exact .bad rfl (below_one w _) HR.out
  · have d1 : decide ((16777216 : Int) < (s.size : Int)) = false := decide_eq_false (by omega)
    have d1n : decide (16777216 < s.size) = false := decide_eq_false hs
    have HS := Lib.hid hs
    have C := Lib.hid (fun W => refread_any s (by omega) 0 1 W (Nat.zero_le _) (by omega))
    unfold ReadOut ndV at C
    clear hs
    go_enter Tryd.func23, Tryd.ntmps23
    go_upto_region 1 with fail
    refine gen_world (fun X => Below w.heap.size w X ∧ Lies X w.heap.size z6 ∧ X.heap.size = w.heap.size + 1) ⟨below_one w _, Lies.new w _, World.size_alloc _ _⟩ ?_
    rintro X ⟨bX, lX, zX⟩
    have BX := Lib.hid bX
    have LX : Hid (Lies X w.heap.size (ndO ⟨0, 0, ⟨#[]⟩, 0, 0⟩ (.slice none 0 0))) := lX
    have ZX := Lib.hid zX
    clear bX lX zX
    go_upto_region 4 with (first
      | (go_at_call 42; refine (C.out _).mono ?_; rintro e w6 ⟨h1, k1, sa, sn, sc, E, rfl, kon, b6, got⟩; have B6 := Lib.hid b6; have KO := Lib.hid kon; have GT := Lib.hid got; clear b6 kon got))
    refine gen_world (fun Z => Below X.heap.size X Z ∧ Lies Z w6.heap.size (ndO h1 (.slice sa sn sc)) ∧ KOn Z (fun b => X.heap.size ≤ b) (.slice sa sn sc) k1) ⟨afterL B6.out (below_one w6 _), Lies.new w6 _, KO.out.below (below_one w6 _) (Nat.le_refl _)⟩ ?_
    rintro Z ⟨bZ, lZ, kZ⟩
    have BW := Lib.hid (BX.out.trans (bZ.mono BX.out.size))
    have LR := Lib.hid (LX.out.below bZ LX.out.lt)
    have KZ := Lib.hid kZ
    have n1 : ¬ w6.heap.size = w.heap.size := by
      have := B6.out.size
      have := ZX.out
      omega
    obtain ⟨e0, e1, e2, e3, e4, e5⟩ := lZ.node
    obtain ⟨⟨c0, c1, c2, c3, c4, c5⟩, f0, f1, f2, f3, f4, f5⟩ := LR.out.nodef
    clear bZ lZ kZ
    have hg := GT.out
    unfold GotR at hg
    cases hrt : readT 1 (rest s 0) with
    | error er =>
      rw [hrt] at hg
      obtain rfl : E = er := hg
      have hneg := errT_neg hrt
      by_cases g1 : E = -2
      · have q1 : (E == (-2 : Int)) = true := beq_iff_eq.2 g1
        have HR : Hid (readS s = .error 2) := by
          unfold Hid
          rw [readS_error HS.out hrt, if_pos g1]
        clear hrt g1 hneg
        go_wp2_with fail
        refine bodyPost_ret (res_node Tryd.results23 rfl (Lies.all6 LR.out ⟨0, 0, ⟨#[]⟩, 0, 0⟩ (.slice none 0 0))) rfl ?_
        exact .bad rfl (set6_below BW.out (Nat.le_refl _) _ _ _ _ _ _) HR.out
      · have q1 : (E == (-2 : Int)) = false := beq_eq_false_iff_ne.2 g1
        have q2 : (E != (s.size : Int)) = true := by rw [bne_iff_ne]; omega
        have HR : Hid (readS s = .error 100) := by
          unfold Hid
          rw [readS_error HS.out hrt, if_neg g1]
        clear hrt g1 hneg
        go_wp2_with fail
        refine bodyPost_ret (res_node Tryd.results23 rfl (Lies.all6 LR.out ⟨0, 0, ⟨#[]⟩, 0, 0⟩ (.slice none 0 0))) rfl ?_
        exact .bad rfl (set6_below BW.out (Nat.le_refl _) _ _ _ _ _ _) HR.out
    | ok p =>
      obtain ⟨h2, k2, q⟩ := p
      rw [hrt] at hg
      obtain ⟨rfl, rfl, rfl⟩ := hg
      have hsh := readT_short hrt
      rw [rest_full] at hsh
      have HR0 := Lib.hid (readS_ok HS.out hrt)
      obtain ⟨n, hn⟩ : ∃ n, s.size - q.length = n := ⟨_, rfl⟩
      rw [hn]
      have q1 : ((n : Int) == (-2 : Int)) = false := beq_eq_false_iff_ne.2 (by omega)
      by_cases g1 : q = []
      · have q2 : ((n : Int) != (s.size : Int)) = false := by rw [bne_eq_false_iff_eq, ← hn, g1]; simp
        have q2n : (n == s.size) = true := by rw [beq_iff_eq, ← hn, g1]; simp
        have q3 : ((s.size : Int) == 0) = false := beq_eq_false_iff_ne.2 (by omega)
        have q3n : (s.size == 0) = false := beq_eq_false_iff_ne.2 (by omega)
        have HR : Hid (readS s = .ok (h1, k1)) := by
          unfold Hid
          rw [HR0.out, if_pos g1]
        clear hrt g1 hsh hn HR0 GT
        go_wp2_with fail
        refine bodyPost_ret (res_node Tryd.results23 rfl (Lies.all6 LR.out h1 (.slice sa sn sc))) rfl ?_
        exact ⟨h1, k1, sa, sn, sc, 0, rfl, (KZ.out.set6 (fun b hb => by have := ZX.out; omega) _ _ _ _ _ _).less (fun b hb => by have := ZX.out; omega), set6_below BW.out (Nat.le_refl _) _ _ _ _ _ _, by unfold Told; rw [HR.out]; exact ⟨rfl, rfl, rfl⟩⟩
      · have hq : 0 < q.length := by
          cases q with
          | nil => exact absurd rfl g1
          | cons a b => simp
        have q2 : ((n : Int) != (s.size : Int)) = true := by rw [bne_iff_ne]; omega
        have q2n : (n == s.size) = false := by rw [beq_eq_false_iff_ne]; omega
        have HR : Hid (readS s = .error 100) := by
          unfold Hid
          rw [HR0.out, if_neg g1]
        clear hrt g1 hsh hn HR0 GT hq
        go_wp2_with fail
        refine bodyPost_ret (res_node Tryd.results23 rfl (Lies.all6 LR.out ⟨0, 0, ⟨#[]⟩, 0, 0⟩ (.slice none 0 0))) rfl ?_
        exact .bad rfl (set6_below BW.out (Nat.le_refl _) _ _ _ _ _ _) HR.out
end Go.Proofs.YtmandanmndmnhaaDoor.Tre
