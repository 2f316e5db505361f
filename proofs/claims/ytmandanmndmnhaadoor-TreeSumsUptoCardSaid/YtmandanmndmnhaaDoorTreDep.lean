/-
  The program's own Depth of trees. Conditions: at most 2^40 deep.
-/
import Derived.Test.YtmandanmndmnhaaDoorTreClo
namespace Go.Proofs.YtmandanmndmnhaaDoor.Tre
open Tks Go.RowKit
set_option linter.unusedSimpArgs false
set_option linter.unusedVariables false

def fn1 (K F : Nat) : Value := .func (.func K) #[] #[.pointer (some ⟨F, 0, none⟩)]
theorem One.below {w w' : World} {b B : Nat} {v : Value} {t : TypeId} (h : One w b v t) (hb : Below B w w') (hB : b < B) : One w' b v t := Lies.below h hb hB
def DeepP (h : Hd) (k : Fo) : Prop := ∀ (v : Value) (w0 w : World) (F : Nat), NdArg w0 v h k → w0.heap.size ≤ F → F < w.heap.size → Below w0.heap.size w0 w → One w F (fn1 28 F) 27 → 1 + deepF k ≤ 2199023255552 →
    Calls Tryd.prog 28 #[v, .pointer (some ⟨F, 0, none⟩)] w fun e w' => e = .returned (.int .i64 ((1 + deepF k : Nat) : Int)) ∧ Below w.heap.size w w'
theorem deep_all : ∀ (f : Fo) (i : Nat), deepF (dropF i f) ≤ deepF f
  | .nil, i => by
    rw [dropF_nil]
    exact Nat.le_refl _
  | .cons h k r, 0 => Nat.le_refl _
  | .cons h k r, i + 1 => by
    have := deep_all r i
    simp only [dropF, deepF]
    omega
set_option maxRecDepth 1000000 in
set_option maxHeartbeats 4000000 in
theorem deep_any (h : Hd) (k : Fo) : DeepP h k := by
  refine all_trees (P := DeepP) ?_ h k
  intro h k ih v w0 w F hn hF hFl hw hfn hsz
  obtain ⟨vk, rfl, hk⟩ := hn
  obtain ⟨a, c, rfl⟩ := hk.len
  have HK := Lib.hid hk
  have IH := Lib.hid ih
  have HM := Lib.hid hk.max
  have HF := Lib.hid hF
  have HFL := Lib.hid hFl
  have HSZ := Lib.hid hsz
  have HW := Lib.hid hw
  have O2 := Lib.hid hfn
  obtain ⟨tot, htot⟩ : ∃ tot, deepF k = tot := ⟨_, rfl⟩
  have HT : Hid (max 0 (deepF (dropF 0 k)) = tot) := by unfold Hid; rw [drop_zero]; omega
  rw [htot] at HSZ ⊢
  have HTT := Lib.hid htot
  unfold ndV
  clear hk ih hF hsz hw hfn hFl htot
  go_enter Tryd.func28, Tryd.ntmps28
  go_upto_region 1 with fail
  refine gen_world (fun X => Below w.heap.size w X ∧ Lies X w.heap.size (ndO h (.slice a (len k) c))) ⟨below_one w _, Lies.new w _⟩ ?_
  rintro X ⟨bX, lX⟩
  have P2 : Hid (One X F (fn1 28 F) 27) := O2.out.below bX HFL.out
  have BX := Lib.hid bX
  have SX : Hid (F < X.heap.size ∧ w.heap.size ≤ X.heap.size) := ⟨Nat.lt_of_lt_of_le HFL.out bX.size, bX.size⟩
  obtain ⟨a0, a1, a2, a3, a4, a5⟩ := lX.node
  clear bX lX O2
  go_wp2_with fail
  go_loopw [4, 10] (fun dv iv wr => ∃ (i m : Nat), dv = .int .i64 (m : Int) ∧ iv = .int .i64 (i : Int) ∧ i ≤ len k ∧ Hid (max m (deepF (dropF i k)) = tot) ∧ Hid (Below X.heap.size X wr)) (fun _ iv _ => len k - (intOf iv).toNat)
  case atStart => exact ⟨0, 0, rfl, rfl, Nat.zero_le _, HT.out, Below.refl _ _⟩
  case round =>
    obtain ⟨i, m, rfl, rfl, hi, HTi, BR⟩ := hrel
    clear a0 a1 a2 a3 a4 a5 HT
    have FR := Lib.hid (P2.out.below BR.out SX.out.1)
    have i0 : (0 : Int) ≤ (i : Int) := by omega
    by_cases hp : i < len k
    · obtain ⟨h1, k1, e1⟩ := drop_cons i k hp
      rcases HK.out with ⟨e, _⟩ | ⟨ba, oa, ca, ea, -, la, fa⟩
      · rw [e] at hp
        exact absurd hp (by simp [len])
      simp only [Value.slice.injEq] at ea
      obtain ⟨rfl, -, rfl⟩ := ea
      have BW := Lib.hid ((HW.out.trans (BX.out.mono HW.out.size)).trans (BR.out.mono (Nat.le_trans HW.out.size SX.out.2)))
      obtain ⟨v1, p0, p1, p2, p3, p4, p5, pk⟩ := six_in fa la BW.out e1
      obtain ⟨ra, rc, rfl⟩ := pk.len
      have hE : max (max m (1 + deepF k1)) (deepF (dropF (i + 1) k)) = tot := by
        have := HTi.out
        rw [e1] at this
        simp only [deepF] at this
        omega
      have HE := Lib.hid hE
      have hle : 1 + deepF k1 ≤ tot := by omega
      have hm : m ≤ tot := by omega
      have C := Lib.hid (fun (W : World) (hW : Below wr.heap.size wr W) => IH.out h1 k1 (mem_drop i k e1) (ndV h1 (.slice ra (len k1) rc)) w0 W F ⟨_, rfl, pk⟩ HF.out (by have := SX.out; have := BR.out.size; have := hW.size; omega) (BW.out.trans (hW.mono BW.out.size)) (FR.out.below hW (by have := SX.out; have := BR.out.size; omega)) (by have := HSZ.out; omega))
      unfold ndV at C
      have i1 : (i : Int) < (len k : Int) := by omega
      obtain ⟨w1, w2⟩ := idx_max i (len k) hp HM.out
      have HP := Lib.hid hp
      clear hp e1 la fa pk hE
      obtain ⟨d1, hd1⟩ : ∃ d1, 1 + deepF k1 = d1 := ⟨_, rfl⟩
      rw [hd1] at C HE hle
      have HLE := Lib.hid hle
      have HLM := Lib.hid hm
      clear hd1 hle hm
      go_upto_region 5 with fail
      refine gen_world (fun Z => Below wr.heap.size wr Z ∧ Lies Z wr.heap.size (ndO h1 (.slice ra (len k1) rc))) ⟨below_one wr _, Lies.new wr _⟩ ?_
      rintro Z ⟨bZ, lZ⟩
      have r1 := (FR.out.below bZ (by have := SX.out; have := BR.out.size; omega)).c0
      unfold fn1 at r1
      have BZ := Lib.hid bZ
      have CZ := Lib.hid (C.out Z bZ)
      obtain ⟨q0, q1, q2, q3, q4, q5⟩ := lZ.node
      clear bZ lZ C p0 p1 p2 p3 p4 p5
      go_wp2_with (first
        | (go_at_call 28; refine CZ.out.mono ?_; rintro e w6 ⟨rfl, b6⟩; have B6 := Lib.hid b6; clear b6))
      refine ⟨⟨i + 1, if m < d1 then d1 else m, by split <;> rfl, by go_num, HP.out, ?_, (BR.out.trans (BZ.out.mono BR.out.size)).trans (B6.out.mono (Nat.le_trans BR.out.size BZ.out.size))⟩, ?_⟩
      · have := HE.out
        unfold Hid
        rw [← this]
        split <;> omega
      · have := HP.out
        simp [intOf]
        omega
    · have hq : i = len k := by omega
      have HG : Hid (m = tot) := by
        have := HTi.out
        rw [hq, drop_len] at this
        unfold Hid
        simpa [deepF] using this
      obtain ⟨y1, y2⟩ := wrapS (n := m) (by have := HG.out; have := HSZ.out; omega)
      go_wp2_with fail
      go_ret
      exact ⟨by rw [← HG.out]; simp [Int.add_comm], afterL BX.out BR.out⟩
set_option maxRecDepth 1000000 in
set_option maxHeartbeats 2000000 in
theorem Depth_any (h : Hd) (k : Fo) (v : Value) (w : World) (hn : NdArg w v h k) (hs : deepF k ≤ 1099511627776) :
    Calls Tryd.prog 15 #[v] w fun e w' => e = .returned (.int .i64 ((1 + deepF k : Nat) : Int)) ∧ Below w.heap.size w w' := by
  have HN := Lib.hid hn
  obtain ⟨vk, rfl, hk⟩ := hn
  obtain ⟨a, c, rfl⟩ := hk.len
  have HS := Lib.hid hs
  obtain ⟨tot, htot⟩ : ∃ tot, 1 + deepF k = tot := ⟨_, rfl⟩
  have CC := Lib.hid (fun (W : World) (F : Nat) h1 h2 h3 h4 => deep_any h k _ w W F HN.out h1 h2 h3 h4 (by have := HS.out; omega))
  rw [htot] at CC
  rw [htot]
  unfold ndV at CC ⊢
  clear hk hs htot
  have mk := makeF
  go_enter Tryd.func15, Tryd.ntmps15
  go_upto_region 2 with fail
  refine gen_world (fun X => Lies X w.heap.size (ndO h (.slice a (len k) c)) ∧ One X (w.heap.size + 1) .nilFunc 27 ∧ Below w.heap.size w X ∧ X.heap.size = w.heap.size + 2) ⟨(two_lie w _ _).1, (two_lie w _ _).2, below_two' w _ _, by rw [World.size_alloc, World.size_alloc]⟩ ?_
  rintro X ⟨lX, fX, bX, zX⟩
  generalize hF : w.heap.size + 1 = F at *
  have n3 : ¬ w.heap.size = F := by omega
  have c0 := fX.c0
  have f0 := fX.free0
  have HSF : Hid (w.heap.size ≤ F ∧ F < X.heap.size) := by unfold Hid; omega
  have LX := Lib.hid lX
  have FX := Lib.hid fX
  have BX := Lib.hid bX
  clear lX fX bX zX hF
  go_upto_region 3 with fail
  refine gen_world (fun Y => One Y F (fn1 28 F) 27 ∧ Lies Y w.heap.size (ndO h (.slice a (len k) c)) ∧ Below w.heap.size w Y ∧ X.heap.size = Y.heap.size) ⟨FX.out.set _, Lies.other LX.out n3 _, BX.out.setCell (p := ⟨F, 0, none⟩) HSF.out.1 _, by rw [World.size_setCell]⟩ ?_
  rintro Y ⟨fY, lY, bY, zY⟩
  obtain ⟨a0, a1, a2, a3, a4, a5⟩ := lY.node
  have b0 := fY.c0
  unfold fn1 at b0
  have CY := Lib.hid (CC.out Y F HSF.out.1 (by have := HSF.out; omega) bY fY)
  have BY := Lib.hid bY
  clear c0 f0 fY lY bY zY LX FX BX CC
  go_wp2_with (first
    | (go_at_call 28; refine CY.out.mono ?_; rintro e w6 ⟨rfl, b6⟩; have B6 := Lib.hid b6; clear b6))
  go_ret
  exact ⟨rfl, afterL BY.out B6.out⟩
end Go.Proofs.YtmandanmndmnhaaDoor.Tre
