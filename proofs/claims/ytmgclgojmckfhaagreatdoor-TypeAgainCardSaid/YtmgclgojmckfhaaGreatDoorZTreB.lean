/-
  The program's own Size and Depth of trees: closures that call themselves. Conditions: at most 2^40 nodes.
-/
import Derived.Test.YtmgclgojmckfhaaGreatDoorZTreA
import Derived.Laws.EntriesVeiled
namespace Go.Proofs.YtmgclgojmckfhaaGreatDoor.Tre
open Tks Go.RowKit
set_option linter.unusedSimpArgs false
set_option linter.unusedVariables false

theorem makeF (fn : Fn) (first cap : Array Value) (w : World) : (Instr.makeFunc fn first cap).run Tryz.prog w = .ok (.func fn first cap) w := rfl
/-- All blocks below B are as they were, but for S. -/
structure Keeps (S B : Nat) (w w' : World) : Prop where
  os : w'.os = w.os
  tape : w'.tape = w.tape
  output : w'.output = w.output
  size : w.heap.size ≤ w'.heap.size
  block : ∀ k, k < B → k ≠ S → w'.heap[k]? = w.heap[k]?
theorem Keeps.refl (S B : Nat) (w : World) : Keeps S B w w := ⟨rfl, rfl, rfl, Nat.le_refl _, fun _ _ _ => rfl⟩
theorem Keeps.trans {S B : Nat} {a b c : World} (h : Keeps S B a b) (k : Keeps S B b c) : Keeps S B a c :=
  ⟨k.os.trans h.os, k.tape.trans h.tape, k.output.trans h.output, Nat.le_trans h.size k.size, fun j hj hs => (k.block j hj hs).trans (h.block j hj hs)⟩
theorem Keeps.of_below {S B C : Nat} {w w' : World} (h : Below C w w') (hB : B ≤ C) : Keeps S B w w' := ⟨h.os, h.tape, h.output, h.size, fun k hk _ => h.block k (Nat.lt_of_lt_of_le hk hB)⟩
theorem Keeps.set {S B : Nat} {w w' : World} (h : Keeps S B w w') (j : Nat) (v : Value) : Keeps S B w (w'.setCell ⟨S, j, none⟩ v) :=
  ⟨h.os, h.tape, h.output, by rw [World.size_setCell]; exact h.size, fun k hk hs => (heap_set hs).trans (h.block k hk hs)⟩
theorem Keeps.below {S B n : Nat} {w0 w w' : World} (h : Keeps S B w w') (hb : Below n w0 w) (hS : n ≤ S) (hB : n ≤ B) : Below n w0 w' :=
  ⟨h.os.trans hb.os, h.tape.trans hb.tape, h.output.trans hb.output, Nat.le_trans hb.size h.size, fun k hk => (h.block k (by omega) (by omega)).trans (hb.block k hk)⟩
theorem Keeps.lies {S B b : Nat} {w w' : World} {o : Obj} (h : Keeps S B w w') (hl : Lies w b o) (hb : b < B) (hs : b ≠ S) : Lies w' b o := (h.block b hb hs).trans hl
/-- A cell in a block of its own. -/
def One (w : World) (b : Nat) (v : Value) (t : TypeId) : Prop := Lies w b (.cells #[v] t)
theorem One.c0 {w : World} {b : Nat} {v : Value} {t : TypeId} (h : One w b v t) : w.cell? ⟨b, 0, none⟩ = some v := (Lies.cell h 0).trans rfl
theorem One.free0 {w : World} {b : Nat} {v : Value} {t : TypeId} (h : One w b v t) : w.frozen? ⟨b, 0, none⟩ = false := Lies.free h 0
theorem One.set {w : World} {b : Nat} {v : Value} {t : TypeId} (h : One w b v t) (x : Value) : One (w.setCell ⟨b, 0, none⟩ x) b x t := Lies.put h 0 x
def fnV (K S F : Nat) : Value := .func (.func K) #[] #[.pointer (some ⟨S, 0, none⟩), .pointer (some ⟨F, 0, none⟩)]
/-- The kids of a row as they stand in a world that has kept it. -/
theorem six_in {w0 w : World} {b off : Nat} {k : Fo} (hf : FoIn w0 k b off) (hb : b < w0.heap.size) (hw : Below w0.heap.size w0 w) {n : Nat} {h1 : Hd} {k1 : Fo} (e : dropF n k = .cons h1 k1 (dropF (n + 1) k)) :
    ∃ vk, w.cell? ⟨b, off + n * 6, none⟩ = some (.int .i64 h1.kind) ∧ w.cell? ⟨b, off + n * 6 + 1, none⟩ = some (.int .i64 h1.form) ∧ w.cell? ⟨b, off + n * 6 + 2, none⟩ = some (.string h1.text) ∧ w.cell? ⟨b, off + n * 6 + 3, none⟩ = some (.int .i64 h1.line) ∧ w.cell? ⟨b, off + n * 6 + 4, none⟩ = some (.int .i64 h1.col) ∧ w.cell? ⟨b, off + n * 6 + 5, none⟩ = some vk ∧ KArg w0 vk k1 := by
  obtain ⟨vk, c0, c1, c2, c3, c4, c5, hk⟩ := hf.six e
  have hc : ∀ o, w.cell? ⟨b, o, none⟩ = w0.cell? ⟨b, o, none⟩ := fun o => World.cell?_of_block (hw.block b hb)
  exact ⟨vk, (hc _).trans c0, (hc _).trans c1, (hc _).trans c2, (hc _).trans c3, (hc _).trans c4, (hc _).trans c5, hk⟩
theorem three_lie (w : World) (o1 o2 o3 : Obj) : Lies (((w.alloc o1).alloc o2).alloc o3) w.heap.size o1 ∧ Lies (((w.alloc o1).alloc o2).alloc o3) (w.heap.size + 1) o2 ∧ Lies (((w.alloc o1).alloc o2).alloc o3) (w.heap.size + 1 + 1) o3 ∧ Below w.heap.size w (((w.alloc o1).alloc o2).alloc o3) ∧ (((w.alloc o1).alloc o2).alloc o3).heap.size = w.heap.size + 3 := by
  have h := two_lie w o1 o2
  have h3 := Lies.new ((w.alloc o1).alloc o2) o3
  rw [World.size_alloc, World.size_alloc] at h3
  exact ⟨h.1.alloc _, h.2.alloc _, h3, afterL (below_two' w o1 o2) (below_one _ o3), by rw [World.size_alloc, World.size_alloc, World.size_alloc]⟩
end Go.Proofs.YtmgclgojmckfhaaGreatDoor.Tre
/-
  The program's own Depth of trees. Conditions: at most 2^40 deep.
-/
namespace Go.Proofs.YtmgclgojmckfhaaGreatDoor.Tre
open Tks Go.RowKit
set_option linter.unusedSimpArgs false
set_option linter.unusedVariables false

def fn1 (K F : Nat) : Value := .func (.func K) #[] #[.pointer (some ⟨F, 0, none⟩)]
theorem One.below {w w' : World} {b B : Nat} {v : Value} {t : TypeId} (h : One w b v t) (hb : Below B w w') (hB : b < B) : One w' b v t := Lies.below h hb hB
end Go.Proofs.YtmgclgojmckfhaaGreatDoor.Tre
/-
  The program's own Same of trees, and slices.EqualFunc over rows of trees. No condition.
-/
namespace Go.Proofs.YtmgclgojmckfhaaGreatDoor.Tre
open Tks Go.RowKit
set_option linter.unusedSimpArgs false
set_option linter.unusedVariables false

def SameP (h : Hd) (k : Fo) : Prop := ∀ (g : Hd) (l : Fo) (va vb : Value) (w0 w : World) (F : Nat), NdArg w0 va h k → NdArg w0 vb g l → w0.heap.size ≤ F → F < w.heap.size → Below w0.heap.size w0 w → One w F (fn1 17 F) 38 →
    Calls Tryz.prog 17 #[va, vb, .pointer (some ⟨F, 0, none⟩)] w fun e w' => e = .returned (.bool (sameH h g && sameF k l)) ∧ Below w.heap.size w w'
set_option maxRecDepth 1000000 in
set_option maxHeartbeats 4000000 in
theorem eqf_any (k l : Fo) (ih : ∀ h' k', MemF h' k' k → SameP h' k') (va vb : Value) (w0 w : World) (F : Nat) (ha : KArg w0 va k) (hb : KArg w0 vb l) (hF : w0.heap.size ≤ F) (hFl : F < w.heap.size) (hw : Below w0.heap.size w0 w) (hfn : One w F (fn1 17 F) 38) :
    Calls Tryz.prog 18 #[va, vb, fn1 17 F] w fun e w' => e = .returned (.bool (sameF k l)) ∧ Below w.heap.size w w' := by
  obtain ⟨pa, ca, rfl⟩ := ha.len
  obtain ⟨pb, cb, rfl⟩ := hb.len
  have HA := Lib.hid ha
  have HB := Lib.hid hb
  have IH := Lib.hid ih
  have HM := Lib.hid ha.max
  have HFF := Lib.hid hF
  have HFL := Lib.hid hFl
  have HW := Lib.hid hw
  have O2 := Lib.hid hfn
  unfold fn1
  clear ha hb ih hF hFl hw hfn
  obtain ⟨res, hres⟩ : ∃ res, sameF k l = res := ⟨_, rfl⟩
  have HR := Lib.hid hres
  rw [hres]
  clear hres
  by_cases hl : len k = len l
  · have l0 : ((len k : Int) != (len l : Int)) = false := by rw [bne_eq_false_iff_eq]; omega
    have l1 : (len k == len l) = true := by rw [beq_iff_eq]; exact hl
    have l2 : (len k != len l) = false := by rw [bne, l1]; rfl
    have HL := Lib.hid hl
    clear hl
    go_enter Tryz.func18, Tryz.ntmps18
    go_wp2_with fail
    go_loopw [17] (fun iv wr => ∃ i : Nat, iv = .int .i64 (i : Int) ∧ i ≤ len k ∧ Hid (sameF (dropF i k) (dropF i l) = res) ∧ Hid (Below w.heap.size w wr)) (fun iv _ => len k - (intOf iv).toNat)
    case atStart => exact ⟨0, rfl, Nat.zero_le _, by unfold Hid; rw [drop_zero, drop_zero]; exact HR.out, Below.refl _ _⟩
    case round =>
      obtain ⟨i, rfl, hi, HS, BR⟩ := hrel
      have i0 : (0 : Int) ≤ (i : Int) := by omega
      by_cases hp : i < len k
      · have hq : i < len l := by rw [← HL.out]; exact hp
        obtain ⟨h1, k1, e1⟩ := drop_cons i k hp
        obtain ⟨g1, m1, e2⟩ := drop_cons i l hq
        rcases HA.out with ⟨e, _⟩ | ⟨ba, oa, ca2, ea, -, la, fa⟩
        · rw [e] at hp
          exact absurd hp (by simp [len])
        rcases HB.out with ⟨e, _⟩ | ⟨bb, ob, cb2, eb, -, lb, fb⟩
        · rw [e] at hq
          exact absurd hq (by simp [len])
        simp only [Value.slice.injEq] at ea eb
        obtain ⟨rfl, -, rfl⟩ := ea
        obtain ⟨rfl, -, rfl⟩ := eb
        have BW := Lib.hid (HW.out.trans (BR.out.mono HW.out.size))
        obtain ⟨v1, p0, p1, p2, p3, p4, p5, pk⟩ := six_in fa la BW.out e1
        obtain ⟨v2, q0, q1, q2, q3, q4, q5, qk⟩ := six_in fb lb BW.out e2
        obtain ⟨ra, rc, rfl⟩ := pk.len
        obtain ⟨sa, sc, rfl⟩ := qk.len
        have HE : Hid (((sameH h1 g1 && sameF k1 m1) && sameF (dropF (i + 1) k) (dropF (i + 1) l)) = res) := by
          have := HS.out
          rw [e1, e2] at this
          exact this
        have C := Lib.hid (fun (W : World) (hW : Below wr.heap.size wr W) => IH.out h1 k1 (mem_drop i k e1) g1 m1 (ndV h1 (.slice ra (len k1) rc)) (ndV g1 (.slice sa (len m1) sc)) w0 W F ⟨_, rfl, pk⟩ ⟨_, rfl, qk⟩ HFF.out (by have := HFL.out; have := BR.out.size; have := hW.size; omega) (BW.out.trans (hW.mono BW.out.size)) (((O2.out.below BR.out HFL.out)).below hW (by have := HFL.out; have := BR.out.size; omega)))
        unfold ndV at C
        have i1 : (i : Int) < (len k : Int) := by omega
        have i2 : (i : Int) < (len l : Int) := by omega
        obtain ⟨w1, w2⟩ := idx_max i (len k) hp HM.out
        have HP := Lib.hid hp
        have Q6 : Hid (∀ w' : World, Below wr.heap.size wr w' → w'.cell? ⟨bb, ob + i * 6, none⟩ = some (.int .i64 g1.kind) ∧ w'.cell? ⟨bb, ob + i * 6 + 1, none⟩ = some (.int .i64 g1.form) ∧ w'.cell? ⟨bb, ob + i * 6 + 2, none⟩ = some (.string g1.text) ∧ w'.cell? ⟨bb, ob + i * 6 + 3, none⟩ = some (.int .i64 g1.line) ∧ w'.cell? ⟨bb, ob + i * 6 + 4, none⟩ = some (.int .i64 g1.col) ∧ w'.cell? ⟨bb, ob + i * 6 + 5, none⟩ = some (.slice sa (len m1) sc)) := by
          intro w' hw'
          have hlb : bb < wr.heap.size := Nat.lt_of_lt_of_le lb BW.out.size
          have hc : ∀ o, w'.cell? ⟨bb, o, none⟩ = wr.cell? ⟨bb, o, none⟩ := fun o => World.cell?_of_block (hw'.block bb hlb)
          exact ⟨(hc _).trans q0, (hc _).trans q1, (hc _).trans q2, (hc _).trans q3, (hc _).trans q4, (hc _).trans q5⟩
        clear hp hq e1 e2 la fa pk lb fb qk q0 q1 q2 q3 q4 q5
        generalize (sameH h1 g1 && sameF k1 m1) = r at C HE
        go_upto_region 6 with fail
        refine gen_world (fun Z => Below wr.heap.size wr Z ∧ Lies Z wr.heap.size (ndO h1 (.slice ra (len k1) rc)) ∧ Z.heap.size = wr.heap.size + 1) ⟨below_one wr _, Lies.new wr _, World.size_alloc _ _⟩ ?_
        rintro Z ⟨bZ, lZ, zZ⟩
        obtain ⟨q0, q1, q2, q3, q4, q5⟩ := Q6.out Z bZ
        have LZ := Lib.hid lZ
        have BZ := Lib.hid bZ
        have ZZ := Lib.hid zZ
        clear bZ lZ zZ p0 p1 p2 p3 p4 p5
        go_upto_region 7 with fail
        refine gen_world (fun Y => Below wr.heap.size wr Y ∧ Lies Y wr.heap.size (ndO h1 (.slice ra (len k1) rc)) ∧ Lies Y Z.heap.size (ndO g1 (.slice sa (len m1) sc))) ⟨afterL BZ.out (below_one Z _), LZ.out.alloc _, Lies.new Z _⟩ ?_
        rintro Y ⟨bY, lY, mY⟩
        have BY := Lib.hid bY
        have CY := Lib.hid (C.out Y bY)
        clear q0 q1 q2 q3 q4 q5 C
        obtain ⟨p0, p1, p2, p3, p4, p5⟩ := lY.node
        obtain ⟨q0, q1, q2, q3, q4, q5⟩ := mY.node
        clear bY lY mY
        cases r with
        | false =>
          have HF : Hid (false = res) := HE.out
          go_wp2_with (first
            | (go_at_call 17; refine CY.out.mono ?_; rintro e w6 ⟨rfl, b6⟩; have B6 := Lib.hid b6; clear b6))
          go_ret
          exact ⟨by rw [← HF.out]; rfl, BR.out.trans ((afterL BY.out B6.out).mono BR.out.size)⟩
        | true =>
          have HT : Hid (sameF (dropF (i + 1) k) (dropF (i + 1) l) = res) := by
            have := HE.out
            rw [Bool.true_and] at this
            exact this
          go_wp2_with (first
            | (go_at_call 17; refine CY.out.mono ?_; rintro e w6 ⟨rfl, b6⟩; have B6 := Lib.hid b6; clear b6))
          go_roundw
          case rel => exact ⟨i + 1, by go_num, HP.out, HT.out, BR.out.trans ((afterL BY.out B6.out).mono BR.out.size)⟩
          case measure => have := HP.out; simp [intOf]; omega
      · have hq : i = len k := by omega
        have HT : Hid (true = res) := by
          have := HS.out
          rw [hq, drop_len] at this
          have e := drop_len l
          rw [← HL.out] at e
          rw [e] at this
          exact this
        go_wp2_with fail
        go_ret
        exact ⟨by rw [← HT.out]; rfl, BR.out⟩
  · have l0 : ((len k : Int) != (len l : Int)) = true := by rw [bne_iff_ne]; omega
    have l1 : (len k == len l) = false := by rw [beq_eq_false_iff_ne]; exact hl
    have l2 : (len k != len l) = true := by rw [bne, l1]; rfl
    have HF : Hid (false = res) := by rw [← HR.out]; exact (sameF_lens hl).symm
    clear hl
    go_enter Tryz.func18, Tryz.ntmps18
    go_wp2_with fail
    go_ret
    exact ⟨by rw [← HF.out]; rfl, Below.refl _ _⟩
set_option maxRecDepth 1000000 in
set_option maxHeartbeats 4000000 in
theorem same_any (h : Hd) (k : Fo) : SameP h k := by
  refine all_trees (P := SameP) ?_ h k
  intro h k ih g l va vb w0 w F ha hb hF hFl hw hfn
  obtain ⟨ka, rfl, hka⟩ := ha
  obtain ⟨kb, rfl, hkb⟩ := hb
  have C0 := Lib.hid (fun (W : World) (hW : Below w.heap.size w W) => eqf_any k l ih ka kb w0 W F hka hkb hF (Nat.lt_of_lt_of_le hFl hW.size) (hw.trans (hW.mono hw.size)) (hfn.below hW hFl))
  obtain ⟨pa, ca, rfl⟩ := hka.len
  obtain ⟨pb, cb, rfl⟩ := hkb.len
  have FN : Hid (∀ W : World, Below w.heap.size w W → One W F (fn1 17 F) 38) := fun W hW => hfn.below hW hFl
  unfold fn1 at C0
  unfold ndV
  clear hka hkb ih hF hFl hw hfn
  obtain ⟨res, hres⟩ : ∃ res, (sameH h g && sameF k l) = res := ⟨_, rfl⟩
  have HR := Lib.hid hres
  rw [hres]
  clear hres
  go_enter Tryz.func17, Tryz.ntmps17
  go_upto_region 1 with fail
  refine gen_world (fun X => Below w.heap.size w X ∧ Lies X w.heap.size (ndO h (.slice pa (len k) ca)) ∧ Lies X (w.heap.size + 1) (ndO g (.slice pb (len l) cb))) ⟨below_two' w _ _, (two_lie w _ _).1, (two_lie w _ _).2⟩ ?_
  rintro X ⟨bX, lX, mX⟩
  generalize hR2 : w.heap.size + 1 = R2 at *
  have n1 : ¬ R2 = w.heap.size := by omega
  have n2 : ¬ w.heap.size = R2 := by omega
  obtain ⟨a0, a1, a2, a3, a4, a5⟩ := lX.node
  obtain ⟨b0, b1, b2, b3, b4, b5⟩ := mX.node
  have r0 := (FN.out X bX).c0
  unfold fn1 at r0
  have CX := Lib.hid (C0.out X bX)
  have BX := Lib.hid bX
  clear bX lX mX hR2 C0
  cases x0 : (h.kind == g.kind) with
  | false =>
    have HF : Hid (false = res) := by rw [← HR.out]; unfold Hid sameH; rw [x0]; rfl
    go_wp2_with fail
    go_ret
    exact ⟨by rw [← HF.out]; rfl, BX.out⟩
  | true =>
    cases y0 : (h.form == g.form) with
    | false =>
      have HF : Hid (false = res) := by rw [← HR.out]; unfold Hid sameH; rw [x0, y0]; rfl
      go_wp2_with fail
      go_ret
      exact ⟨by rw [← HF.out]; rfl, BX.out⟩
    | true =>
      cases z0 : (h.text.data.toList == g.text.data.toList) with
      | false =>
        have z1 : (h.text.toList == g.text.toList) = false := by rw [Lib.toList_data, Lib.toList_data]; exact z0
        have HF : Hid (false = res) := by rw [← HR.out]; unfold Hid sameH; rw [x0, y0, z0]; rfl
        go_wp2_with fail
        go_ret
        exact ⟨by rw [← HF.out]; rfl, BX.out⟩
      | true =>
        have z1 : (h.text.toList == g.text.toList) = true := by rw [Lib.toList_data, Lib.toList_data]; exact z0
        have HS : Hid (sameF k l = res) := by rw [← HR.out]; unfold Hid sameH; rw [x0, y0, z0]; rfl
        rw [HS.out] at CX
        go_wp2_with (first
          | (go_at_call 18; refine CX.out.mono ?_; rintro e w6 ⟨rfl, b6⟩; have B6 := Lib.hid b6; clear b6))
        go_ret
        exact ⟨rfl, afterL BX.out B6.out⟩
set_option maxRecDepth 1000000 in
set_option maxHeartbeats 2000000 in
theorem Same_any (h g : Hd) (k l : Fo) (va vb : Value) (w : World) (ha : NdArg w va h k) (hb : NdArg w vb g l) :
    Calls Tryz.prog 9 #[va, vb] w fun e w' => e = .returned (.bool (sameH h g && sameF k l)) ∧ Below w.heap.size w w' := by
  have CC := Lib.hid (fun (W : World) (F : Nat) h1 h2 h3 h4 => same_any h k g l va vb w W F ha hb h1 h2 h3 h4)
  obtain ⟨ka, rfl, hka⟩ := ha
  obtain ⟨kb, rfl, hkb⟩ := hb
  obtain ⟨pa, ca, rfl⟩ := hka.len
  obtain ⟨pb, cb, rfl⟩ := hkb.len
  obtain ⟨res, hres⟩ : ∃ res, (sameH h g && sameF k l) = res := ⟨_, rfl⟩
  rw [hres] at CC ⊢
  unfold ndV at CC ⊢
  clear hka hkb hres
  have mk := makeF
  go_enter Tryz.func9, Tryz.ntmps9
  go_upto_region 2 with fail
  refine gen_world (fun X => Lies X w.heap.size (ndO h (.slice pa (len k) ca)) ∧ Lies X (w.heap.size + 1) (ndO g (.slice pb (len l) cb)) ∧ One X (w.heap.size + 1 + 1) .nilFunc 38 ∧ Below w.heap.size w X ∧ X.heap.size = w.heap.size + 3) (three_lie w _ _ _) ?_
  rintro X ⟨lX, mX, fX, bX, zX⟩
  generalize hS : w.heap.size + 1 = S at *
  generalize hF : S + 1 = F at *
  have n1 : ¬ S = F := by omega
  have n2 : ¬ F = S := by omega
  have n3 : ¬ w.heap.size = F := by omega
  have c0 := fX.c0
  have f0 := fX.free0
  have HSF : Hid (w.heap.size ≤ S ∧ w.heap.size ≤ F ∧ S < X.heap.size ∧ F < X.heap.size) := by unfold Hid; omega
  have LX := Lib.hid lX
  have OX := Lib.hid mX
  have FX := Lib.hid fX
  have BX := Lib.hid bX
  clear lX mX fX bX zX hS hF
  go_upto_region 3 with fail
  refine gen_world (fun Y => Lies Y S (ndO g (.slice pb (len l) cb)) ∧ One Y F (fn1 17 F) 38 ∧ Lies Y w.heap.size (ndO h (.slice pa (len k) ca)) ∧ Below w.heap.size w Y ∧ X.heap.size = Y.heap.size) ⟨Lies.other OX.out n1 _, FX.out.set _, Lies.other LX.out n3 _, BX.out.setCell (p := ⟨F, 0, none⟩) HSF.out.2.1 _, by rw [World.size_setCell]⟩ ?_
  rintro Y ⟨sY, fY, lY, bY, zY⟩
  obtain ⟨a0, a1, a2, a3, a4, a5⟩ := lY.node
  obtain ⟨e0, e1, e2, e3, e4, e5⟩ := sY.node
  have b0 := fY.c0
  unfold fn1 at b0
  have CY := Lib.hid (CC.out Y F HSF.out.2.1 (by have := HSF.out; omega) bY fY)
  have BY := Lib.hid bY
  clear c0 f0 sY fY lY bY zY LX OX FX BX CC
  go_wp2_with (first
    | (go_at_call 17; refine CY.out.mono ?_; rintro e w6 ⟨rfl, b6⟩; have B6 := Lib.hid b6; clear b6))
  go_ret
  exact ⟨rfl, afterL BY.out B6.out⟩
end Go.Proofs.YtmgclgojmckfhaaGreatDoor.Tre
