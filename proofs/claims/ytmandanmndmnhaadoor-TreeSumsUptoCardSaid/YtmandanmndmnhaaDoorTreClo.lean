/-
  The program's own Size and Depth of trees: closures that call themselves. Conditions: at most 2^40 nodes.
-/
import Derived.Test.YtmandanmndmnhaaDoorTreMem
import Derived.Test.YtmandanmndmnhaaDoorTreCnt
import Derived.Laws.EntriesVeiled
namespace Go.Proofs.YtmandanmndmnhaaDoor.Tre
open Tks Go.RowKit
set_option linter.unusedSimpArgs false
set_option linter.unusedVariables false

theorem makeF (fn : Fn) (first cap : Array Value) (w : World) : (Instr.makeFunc fn first cap).run Tryd.prog w = .ok (.func fn first cap) w := rfl
/-- All blocks below B are as they were, but for S. -/
structure Keeps (S B : Nat) (w w' : World) : Prop where
  os : w'.os = w.os
  tape : w'.tape = w.tape
  output : w'.output = w.output
  size : w.heap.size ≤ w'.heap.size
  block : ∀ k, k < B → k ≠ S → w'.heap[k]? = w.heap[k]?
theorem Keeps.refl (S B : Nat) (w : World) : Keeps S B w w := ⟨rfl, rfl, rfl, Nat.le_refl _, fun _ _ _ => rfl⟩
theorem Keeps.trans {S B : Nat} {a b c : World} (h : Keeps S B a b) (k : Keeps S B b c) : Keeps S B a c :=
  ⟨k.os.trans h.os, k.tape.trans h.tape, k.output.trans h.output, Nat.le_trans h.size k.size, fun j hj hs => (k.block j hj hs).trans (h.block j hj hs)⟩
theorem Keeps.of_below {S B C : Nat} {w w' : World} (h : Below C w w') (hB : B ≤ C) : Keeps S B w w' := ⟨h.os, h.tape, h.output, h.size, fun k hk _ => h.block k (Nat.lt_of_lt_of_le hk hB)⟩
theorem Keeps.set {S B : Nat} {w w' : World} (h : Keeps S B w w') (j : Nat) (v : Value) : Keeps S B w (w'.setCell ⟨S, j, none⟩ v) :=
  ⟨h.os, h.tape, h.output, by rw [World.size_setCell]; exact h.size, fun k hk hs => (heap_set hs).trans (h.block k hk hs)⟩
theorem Keeps.below {S B n : Nat} {w0 w w' : World} (h : Keeps S B w w') (hb : Below n w0 w) (hS : n ≤ S) (hB : n ≤ B) : Below n w0 w' :=
  ⟨h.os.trans hb.os, h.tape.trans hb.tape, h.output.trans hb.output, Nat.le_trans hb.size h.size, fun k hk => (h.block k (by omega) (by omega)).trans (hb.block k hk)⟩
theorem Keeps.lies {S B b : Nat} {w w' : World} {o : Obj} (h : Keeps S B w w') (hl : Lies w b o) (hb : b < B) (hs : b ≠ S) : Lies w' b o := (h.block b hb hs).trans hl
/-- A cell in a block of its own. -/
def One (w : World) (b : Nat) (v : Value) (t : TypeId) : Prop := Lies w b (.cells #[v] t)
theorem One.c0 {w : World} {b : Nat} {v : Value} {t : TypeId} (h : One w b v t) : w.cell? ⟨b, 0, none⟩ = some v := (Lies.cell h 0).trans rfl
theorem One.free0 {w : World} {b : Nat} {v : Value} {t : TypeId} (h : One w b v t) : w.frozen? ⟨b, 0, none⟩ = false := Lies.free h 0
theorem One.set {w : World} {b : Nat} {v : Value} {t : TypeId} (h : One w b v t) (x : Value) : One (w.setCell ⟨b, 0, none⟩ x) b x t := Lies.put h 0 x
def fnV (K S F : Nat) : Value := .func (.func K) #[] #[.pointer (some ⟨S, 0, none⟩), .pointer (some ⟨F, 0, none⟩)]
theorem sum_wrap {n m : Nat} (h : n + m ≤ 2199023255552) : wrap64 ((n : Int) + 1) = ((n + 1 : Nat) : Int) ∨ m = 0 := by
  by_cases q : m = 0
  · exact .inr q
  · exact .inl (by rw [IntWalk.wrap64_in _ ⟨by omega, by omega⟩]; omega)
theorem wrapS {n : Nat} (h : n < 2199023255552) : wrap64 ((n : Int) + 1) = ((n + 1 : Nat) : Int) ∧ IntKind.i64.wrap ((n : Int) + 1) = ((n + 1 : Nat) : Int) := by
  have e : wrap64 ((n : Int) + 1) = ((n + 1 : Nat) : Int) := by rw [IntWalk.wrap64_in _ ⟨by omega, by omega⟩]; omega
  exact ⟨e, by rw [IntWalk.i64_left]; exact e⟩
/-- The kids of a row as they stand in a world that has kept it. -/
theorem six_in {w0 w : World} {b off : Nat} {k : Fo} (hf : FoIn w0 k b off) (hb : b < w0.heap.size) (hw : Below w0.heap.size w0 w) {n : Nat} {h1 : Hd} {k1 : Fo} (e : dropF n k = .cons h1 k1 (dropF (n + 1) k)) :
    ∃ vk, w.cell? ⟨b, off + n * 6, none⟩ = some (.int .i64 h1.kind) ∧ w.cell? ⟨b, off + n * 6 + 1, none⟩ = some (.int .i64 h1.form) ∧ w.cell? ⟨b, off + n * 6 + 2, none⟩ = some (.string h1.text) ∧ w.cell? ⟨b, off + n * 6 + 3, none⟩ = some (.int .i64 h1.line) ∧ w.cell? ⟨b, off + n * 6 + 4, none⟩ = some (.int .i64 h1.col) ∧ w.cell? ⟨b, off + n * 6 + 5, none⟩ = some vk ∧ KArg w0 vk k1 := by
  obtain ⟨vk, c0, c1, c2, c3, c4, c5, hk⟩ := hf.six e
  have hc : ∀ o, w.cell? ⟨b, o, none⟩ = w0.cell? ⟨b, o, none⟩ := fun o => World.cell?_of_block (hw.block b hb)
  exact ⟨vk, (hc _).trans c0, (hc _).trans c1, (hc _).trans c2, (hc _).trans c3, (hc _).trans c4, (hc _).trans c5, hk⟩
def CountP (h : Hd) (k : Fo) : Prop := ∀ (v : Value) (w0 w : World) (n S F : Nat), NdArg w0 v h k → w0.heap.size ≤ S → w0.heap.size ≤ F → ¬ S = F → S < w.heap.size → F < w.heap.size → Below w0.heap.size w0 w → One w S (.int .i64 (n : Int)) 3 → One w F (fnV 27 S F) 40 → n + (1 + sizeF k) ≤ 2199023255552 →
    Calls Tryd.prog 27 #[v, .pointer (some ⟨S, 0, none⟩), .pointer (some ⟨F, 0, none⟩)] w fun e w' => e = .returned (.tuple #[]) ∧ One w' S (.int .i64 ((n + (1 + sizeF k) : Nat) : Int)) 3 ∧ Keeps S (max S F + 1) w w'
set_option maxRecDepth 1000000 in
set_option maxHeartbeats 4000000 in
theorem count_any (h : Hd) (k : Fo) : CountP h k := by
  refine all_trees (P := CountP) ?_ h k
  intro h k ih v w0 w n S F hn hS hF hne hSl hFl hw hone hfn hsz
  obtain ⟨vk, rfl, hk⟩ := hn
  obtain ⟨a, c, rfl⟩ := hk.len
  have HK := Lib.hid hk
  have IH := Lib.hid ih
  have HM := Lib.hid hk.max
  obtain ⟨B, hB⟩ : ∃ B, max S F + 1 = B := ⟨_, rfl⟩
  have HB : Hid (S < B ∧ F < B ∧ B ≤ w.heap.size ∧ w0.heap.size ≤ B) := by unfold Hid; omega
  have HSF := Lib.hid (show w0.heap.size ≤ S ∧ w0.heap.size ≤ F from ⟨hS, hF⟩)
  rw [hB]
  have HBE := Lib.hid hB
  obtain ⟨tot, htot⟩ : ∃ tot, n + (1 + sizeF k) = tot := ⟨_, rfl⟩
  rw [htot] at hsz ⊢
  have HT : Hid (n + 1 + sizeF (dropF 0 k) = tot) := by unfold Hid; rw [drop_zero]; omega
  have HSZ := Lib.hid hsz
  obtain ⟨y1, y2⟩ := wrapS (n := n) (by omega)
  have ne1 : ¬ F = S := fun e => hne e.symm
  have HW := Lib.hid hw
  have O1 := Lib.hid hone
  have O2 := Lib.hid hfn
  unfold ndV
  clear hk ih hB hS hF hsz htot hw hone hfn hSl hFl
  go_enter Tryd.func27, Tryd.ntmps27
  go_upto_region 1 with fail
  refine gen_world (fun X => Below w.heap.size w X ∧ Lies X w.heap.size (ndO h (.slice a (len k) c))) ⟨below_one w _, Lies.new w _⟩ ?_
  rintro X ⟨bX, lX⟩
  have P1 : Hid (One X S (.int .i64 (n : Int)) 3) := O1.out.below bX (by have := HB.out; omega)
  have P2 : Hid (One X F (fnV 27 S F) 40) := O2.out.below bX (by have := HB.out; omega)
  have KX := Lib.hid (Keeps.of_below (S := S) bX HB.out.2.2.1)
  have n1 : ¬ S = w.heap.size := by have := HB.out; omega
  have n2 : ¬ w.heap.size = S := fun e => n1 e.symm
  have LX := Lib.hid lX
  have BX := Lib.hid bX
  have SX : Hid (B ≤ X.heap.size) := by have := HB.out; have := bX.size; unfold Hid; omega
  clear bX lX O1 O2
  have c0 := P1.out.c0
  have f0 := P1.out.free0
  go_upto_region 2 with fail
  refine gen_world (fun Y => One Y S (.int .i64 ((n + 1 : Nat) : Int)) 3 ∧ One Y F (fnV 27 S F) 40 ∧ Lies Y w.heap.size (ndO h (.slice a (len k) c)) ∧ Keeps S B w Y ∧ X.heap.size ≤ Y.heap.size) ⟨by have := P1.out.set (.int .i64 ((n + 1 : Nat) : Int)); simpa using this, Lies.other P2.out ne1 _, LX.out.other n2 _, KX.out.set 0 _, by rw [World.size_setCell]; exact Nat.le_refl _⟩ ?_
  rintro Y ⟨oY, fY, lY, kY, sY⟩
  have Q1 := Lib.hid oY
  have Q2 := Lib.hid fY
  have KY := Lib.hid kY
  have SY : Hid (B ≤ Y.heap.size) := Nat.le_trans SX.out sY
  obtain ⟨a0, a1, a2, a3, a4, a5⟩ := lY.node
  clear c0 f0 oY fY lY kY sY P1 P2 KX LX BX SX y1 y2
  go_wp2_with fail
  go_loopw [11] (fun iv wr => ∃ (i m : Nat), iv = .int .i64 (i : Int) ∧ i ≤ len k ∧ Hid (m + sizeF (dropF i k) = tot) ∧ Hid (One wr S (.int .i64 (m : Int)) 3) ∧ Hid (One wr F (fnV 27 S F) 40) ∧ Hid (Keeps S B w wr) ∧ Hid (B ≤ wr.heap.size)) (fun iv _ => len k - (intOf iv).toNat)
  case atStart => exact ⟨0, n + 1, rfl, Nat.zero_le _, HT.out, Q1.out, Q2.out, KY.out, SY.out⟩
  case round =>
    obtain ⟨i, m, rfl, hi, HTi, R1, R2, KR, SR⟩ := hrel
    clear a0 a1 a2 a3 a4 a5 Q1 Q2 KY SY HT
    have r0 := R2.out.c0
    unfold fnV at r0
    have i0 : (0 : Int) ≤ (i : Int) := by omega
    by_cases hp : i < len k
    · obtain ⟨h1, k1, e1⟩ := drop_cons i k hp
      rcases HK.out with ⟨e, _⟩ | ⟨ba, oa, ca, ea, -, la, fa⟩
      · rw [e] at hp
        exact absurd hp (by simp [len])
      simp only [Value.slice.injEq] at ea
      obtain ⟨rfl, -, rfl⟩ := ea
      have BW := Lib.hid (KR.out.below HW.out HSF.out.1 HB.out.2.2.2)
      obtain ⟨v1, p0, p1, p2, p3, p4, p5, pk⟩ := six_in fa la BW.out e1
      obtain ⟨ra, rc, rfl⟩ := pk.len
      have hE : m + (1 + sizeF k1) + sizeF (dropF (i + 1) k) = tot := by
        have := HTi.out
        rw [e1] at this
        simp only [sizeF] at this
        omega
      have HE := Lib.hid hE
      have C := Lib.hid (fun (W : World) (hW : Below wr.heap.size wr W) => IH.out h1 k1 (mem_drop i k e1) (ndV h1 (.slice ra (len k1) rc)) w0 W m S F ⟨_, rfl, pk⟩ HSF.out.1 HSF.out.2 hne (by have := HB.out; have := SR.out; have := hW.size; omega) (by have := HB.out; have := SR.out; have := hW.size; omega) (BW.out.trans (hW.mono BW.out.size)) (R1.out.below hW (by have := HB.out; have := SR.out; omega)) (R2.out.below hW (by have := HB.out; have := SR.out; omega)) (by have := HSZ.out; omega))
      unfold ndV at C
      rw [HBE.out] at C
      have i1 : (i : Int) < (len k : Int) := by omega
      obtain ⟨w1, w2⟩ := idx_max i (len k) hp HM.out
      have HP := Lib.hid hp
      clear hp e1 la fa pk hE
      obtain ⟨s1, hs1⟩ : ∃ s1, m + (1 + sizeF k1) = s1 := ⟨_, rfl⟩
      rw [hs1] at C HE
      clear hs1
      go_upto_region 5 with fail
      refine gen_world (fun Z => Below wr.heap.size wr Z ∧ Lies Z wr.heap.size (ndO h1 (.slice ra (len k1) rc))) ⟨below_one wr _, Lies.new wr _⟩ ?_
      rintro Z ⟨bZ, lZ⟩
      have r1 := (show One Z F (fnV 27 S F) 40 from Lies.below R2.out bZ (by have := HB.out; have := SR.out; omega)).c0
      unfold fnV at r1
      have BZ := Lib.hid bZ
      have CZ := Lib.hid (C.out Z bZ)
      have SZ : Hid (B ≤ Z.heap.size) := Nat.le_trans SR.out bZ.size
      obtain ⟨q0, q1, q2, q3, q4, q5⟩ := lZ.node
      clear bZ lZ C r0 p0 p1 p2 p3 p4 p5
      go_wp2_with (first
        | (go_at_call 27; refine CZ.out.mono ?_; rintro e w6 ⟨rfl, o6, k6⟩; have O6 := Lib.hid o6; have K6 := Lib.hid k6; clear o6 k6))
      go_roundw
      case rel => exact ⟨i + 1, s1, by go_num, HP.out, HE.out, O6.out, (show One w6 F _ _ from K6.out.lies (Lies.below R2.out BZ.out (by have := HB.out; have := SR.out; omega)) HB.out.2.1 ne1), (KR.out.trans (Keeps.of_below BZ.out SR.out)).trans K6.out, Nat.le_trans SZ.out K6.out.size⟩
      case measure => have := HP.out; simp [intOf]; omega
    · have hq : i = len k := by omega
      have HF : Hid (m = tot) := by
        have := HTi.out
        rw [hq, drop_len] at this
        exact this
      go_wp2_with fail
      go_end0
      exact ⟨rfl, by rw [← HF.out]; exact R1.out, KR.out⟩
theorem three_lie (w : World) (o1 o2 o3 : Obj) : Lies (((w.alloc o1).alloc o2).alloc o3) w.heap.size o1 ∧ Lies (((w.alloc o1).alloc o2).alloc o3) (w.heap.size + 1) o2 ∧ Lies (((w.alloc o1).alloc o2).alloc o3) (w.heap.size + 1 + 1) o3 ∧ Below w.heap.size w (((w.alloc o1).alloc o2).alloc o3) ∧ (((w.alloc o1).alloc o2).alloc o3).heap.size = w.heap.size + 3 := by
  have h := two_lie w o1 o2
  have h3 := Lies.new ((w.alloc o1).alloc o2) o3
  rw [World.size_alloc, World.size_alloc] at h3
  exact ⟨h.1.alloc _, h.2.alloc _, h3, afterL (below_two' w o1 o2) (below_one _ o3), by rw [World.size_alloc, World.size_alloc, World.size_alloc]⟩
set_option maxRecDepth 1000000 in
set_option maxHeartbeats 2000000 in
theorem Size_any (h : Hd) (k : Fo) (v : Value) (w : World) (hn : NdArg w v h k) (hs : sizeF k ≤ 1099511627776) :
    Calls Tryd.prog 13 #[v] w fun e w' => e = .returned (.int .i64 ((1 + sizeF k : Nat) : Int)) ∧ Below w.heap.size w w' := by
  have HN := Lib.hid hn
  obtain ⟨vk, rfl, hk⟩ := hn
  obtain ⟨a, c, rfl⟩ := hk.len
  have HS := Lib.hid hs
  obtain ⟨tot, htot⟩ : ∃ tot, 1 + sizeF k = tot := ⟨_, rfl⟩
  have CC := Lib.hid (fun (W : World) (S F : Nat) h1 h2 h3 h4 h5 h6 h7 h8 => count_any h k _ w W 0 S F HN.out h1 h2 h3 h4 h5 h6 h7 h8 (by have := HS.out; omega))
  rw [Nat.zero_add, htot] at CC
  rw [htot]
  unfold ndV at CC ⊢
  clear hk hs htot
  have mk := makeF
  go_enter Tryd.func13, Tryd.ntmps13
  go_upto_region 3 with fail
  refine gen_world (fun X => Lies X w.heap.size (ndO h (.slice a (len k) c)) ∧ One X (w.heap.size + 1) (.int .i64 0) 3 ∧ One X (w.heap.size + 1 + 1) .nilFunc 40 ∧ Below w.heap.size w X ∧ X.heap.size = w.heap.size + 3) (three_lie w _ _ _) ?_
  rintro X ⟨lX, sX, fX, bX, zX⟩
  generalize hS : w.heap.size + 1 = S at *
  generalize hF : S + 1 = F at *
  have n1 : ¬ S = F := by omega
  have n2 : ¬ F = S := by omega
  have n3 : ¬ w.heap.size = F := by omega
  have c0 := fX.c0
  have f0 := fX.free0
  have HSF : Hid (w.heap.size ≤ S ∧ w.heap.size ≤ F ∧ S < X.heap.size ∧ F < X.heap.size) := by unfold Hid; omega
  have LX := Lib.hid lX
  have OX := Lib.hid sX
  have FX := Lib.hid fX
  have BX := Lib.hid bX
  clear lX sX fX bX zX hS hF
  go_upto_region 4 with fail
  refine gen_world (fun Y => One Y S (.int .i64 0) 3 ∧ One Y F (fnV 27 S F) 40 ∧ Lies Y w.heap.size (ndO h (.slice a (len k) c)) ∧ Below w.heap.size w Y ∧ X.heap.size = Y.heap.size) ⟨Lies.other OX.out n1 _, FX.out.set _, Lies.other LX.out n3 _, BX.out.setCell (p := ⟨F, 0, none⟩) HSF.out.2.1 _, by rw [World.size_setCell]⟩ ?_
  rintro Y ⟨sY, fY, lY, bY, zY⟩
  obtain ⟨a0, a1, a2, a3, a4, a5⟩ := lY.node
  have b0 := fY.c0
  unfold fnV at b0
  have CY := Lib.hid (CC.out Y S F HSF.out.1 HSF.out.2.1 n1 (by have := HSF.out; omega) (by have := HSF.out; omega) bY sY fY)
  have BY := Lib.hid bY
  clear c0 f0 sY fY lY bY zY LX OX FX BX CC
  go_wp2_with (first
    | (go_at_call 27; refine CY.out.mono ?_; rintro e w6 ⟨rfl, o6, k6⟩; have O6 := Lib.hid o6; have B6 := Lib.hid (k6.below BY.out HSF.out.1 (by have := HSF.out; omega)); clear k6 o6; have g0 := O6.out.c0))
  go_ret
  exact ⟨rfl, B6.out⟩
end Go.Proofs.YtmandanmndmnhaaDoor.Tre
