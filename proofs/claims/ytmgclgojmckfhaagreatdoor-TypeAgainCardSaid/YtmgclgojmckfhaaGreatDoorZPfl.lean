/-
  The program's parser: full. Conditions: what the program's Next, row and arrow do, and sizes that are borne.
-/
import Derived.Test.YtmgclgojmckfhaaGreatDoorZPrw
import Derived.Test.YtmgclgojmckfhaaGreatDoorZTypC
import Derived.Test.YtmgclgojmckfhaaGreatDoorZTreB
import Derived.Deep.RegionHeld2
import Derived.Defers
import Derived.Recover
import Derived.RegionTactic
import Derived.Laws.Pointers
namespace Go.Proofs.YtmgclgojmckfhaaGreatDoor.Typ
open Tks Tre Go.RowKit
open Lay (Sx StV Fit9 nextS NextOut tkV9 IntArg Kp)
set_option linter.unusedSimpArgs false
set_option linter.unusedVariables false

/-- What full answers ahead of its cleaning. -/
def pfullR (A : Sx → Rd) (s : Sx) : Rd :=
  if (A s).e = 0 then
    (if isR (A s).s 10 [61, 62] = true then
      (if (arrowsR A (A (takeR (A s).s).s)).e = 0 then ⟨nodeH 38, pushF (pushF (oneF (A s)) (takeR (A s).s)) (arrowsR A (A (takeR (A s).s).s)), (arrowsR A (A (takeR (A s).s).s)).s, 0⟩ else arrowsR A (A (takeR (A s).s).s))
     else arrowsR A (A s))
  else A s
theorem clean_pfull (A : Sx → Rd) (s : Sx) : cleanR (pfullR A s) = fullG A s := by
  unfold pfullR fullG
  by_cases h0 : (A s).e = 0
  · rw [if_pos h0]
    by_cases h1 : isR (A s).s 10 [61, 62] = true
    · have h3 : (A s).e = 0 ∧ isR (A s).s 10 [61, 62] = true := ⟨h0, h1⟩
      rw [if_pos h1]
      generalize arrowsR A (A (takeR (A s).s).s) = v
      by_cases h2 : v.e = 0
      · rw [if_pos h2, if_pos h3, h2]
      · rw [if_neg h2, if_pos h3]
        unfold cleanR
        rw [if_neg h2, if_neg h2]
    · rw [if_neg h1, if_neg (fun q => h1 q.2)]
  · rw [if_neg h0, if_neg (fun q => h0 q.1)]
    unfold arrowsR
    rw [if_neg (fun q => h0 q.1)]
set_option maxRecDepth 1000000 in
set_option maxHeartbeats 2000000 in
theorem pfull_any {N : Nat} (hN : N ≤ 1099511627776) (hN2 : 20 * N + 20 ≤ 1099511627776) (R : NextOn 49) (A : Sx → Rd) (hAF : ∀ s, Fits N s → Fits N (A s).s) (hAL : ∀ s, Lv s (A s)) (hLF : ∀ s, Fits N s → (A s).e = 0 → lf (A s).s ≤ 6 * N + 2) (deep : Int) (P : Nat → Prop) (pb : Nat) (PR : ∀ (P : Nat → Prop) (s : Sx) (W : World), Par W P pb s → Fits N s → (∀ b, W.heap.size ≤ b → P b) → ¬ P pb → Calls Tryz.prog 25 #[.pointer (some ⟨pb, 0, none⟩), .int .i64 deep] W (POut (A s) P pb none W)) (PW : ∀ (P : Nat → Prop) (s : Sx) (W : World), Par W P pb s → Fits N s → (∀ b, W.heap.size ≤ b → P b) → ¬ P pb → Calls Tryz.prog 29 #[.pointer (some ⟨pb, 0, none⟩), .int .i64 deep] W (POut (arrowsR A (A s)) P pb none W)) (s : Sx) (w : World) (hp : Par w P pb s) (hf : Fits N s) (hP : ∀ b, w.heap.size ≤ b → P b) (hpb : ¬ P pb) :
    Calls Tryz.prog 14 #[.pointer (some ⟨pb, 0, none⟩), .int .i64 deep] w (POut (pfullR A s) P pb none w) := by
  have CA0 := Lib.hid (fun Q W a b d => PR Q s W a hf b d)
  have CF := Lib.hid (fun Q kv W a b h c d => pfrom_any hN hN2 R A hAF hAL deep Q pb PR (A s) kv W a b h (hAF _ hf) c d (hLF _ hf h))
  unfold ndV at CF
  have CI := Lib.hid (fun Q W h => pis_any Q pb (A s).s 10 (by decide) ⟨#[61, 62]⟩ W h)
  change Hid (∀ Q W, _ → Calls _ _ _ _ (fun e w' => e = .returned (.bool (isR (A s).s 10 [61, 62])) ∧ _)) at CI
  have CT := Lib.hid (fun Q W a b d => ptake_any hN R Q pb (A s).s W a (hAF _ hf) b d)
  unfold ndV leafH at CT
  dsimp only at CT
  have CW := Lib.hid (fun Q W a b d => PW Q (nx (A s).s) W a (fits_next (hAF _ hf)) b d)
  have HPA := Lib.hid hp
  have HP := Lib.hid hP
  have HPQ : Hid (¬ (Pm P [w.heap.size]) pb) := fun h => hpb h.1
  have HLT := Lib.hid hp.lt
  obtain ⟨x, hx⟩ : ∃ x, pfullR A s = x := ⟨_, rfl⟩
  rw [hx]
  unfold pfullR at hx
  have HX := Lib.hid hx
  have HTK : Hid (isR (A s).s 10 [61, 62] = true → takeR (A s).s = ⟨leafH (tk (A s).s), .nil, nx (A s).s, 0⟩) := fun h => if_pos (is_take h).1
  generalize A s = y at *
  clear hp hf hP hpb R PR PW hAF hAL hLF hN2 hx
  go_enter Tryz.func14, Tryz.ntmps14
  go_upto_region 1 with fail
  refine gen_world (fun X => Below w.heap.size w X ∧ Lies X w.heap.size zNd) ⟨below_one w _, Lies.new w _⟩ ?_
  rintro X ⟨bX, rX⟩
  have pX := HPA.out.into (l := [w.heap.size]) bX (by simp)
  have hge : ∀ b, X.heap.size ≤ b → (Pm P [w.heap.size]) b := Pm.of HP.out (by have := rX.lt; simp; omega) bX.size
  have AX := Lib.hid (CA0.out (Pm P [w.heap.size]) X pX hge HPQ.out)
  have BX := Lib.hid bX
  have RX := Lib.hid rX
  clear bX rX pX hge CA0 HPA
  go_upto_region 2 with (first
    | (go_at_call 25; refine AX.out.mono ?_; rintro e w2 h; rcases Classical.em (y.e = 0) with q0 | q0; rotate_left; (rw [POut.bad q0] at h; obtain ⟨ta4, tc4, oa4, oc4, rfl, s4, q4⟩ := h; refine ⟨rfl, ?_⟩; rw [← HX.out, if_neg q0, POut.bad q0]; exact ⟨ta4, tc4, oa4, oc4, rfl, s4.less (fun b _ h => h.1), (Kp.of_below BX.out).trans q4⟩); rw [POut.ok q0] at h; obtain ⟨ka2, kc2, rfl, k2, p2, q2⟩ := h; have P2 := Lib.hid p2; have K2 := Lib.hid k2; have M2 := Lib.hid ((Kp.of_below BX.out).trans q2); have RR := Lib.hid (kp_lies q2 RX.out (by have := HLT.out; omega) (by simp)); have Y0 := Lib.hid q0; clear k2 p2 q2 q0; unfold ndV))
  refine gen_world (fun Z => Par Z (Pm P [w.heap.size]) pb y.s ∧ KOn Z (Pm P [w.heap.size]) (.slice ka2 (len y.k) kc2) y.k ∧ Lies Z w.heap.size zNd ∧ Lies Z w2.heap.size (ndO y.h (.slice ka2 (len y.k) kc2)) ∧ Kp w Z pb none) ⟨P2.out.below (below_one w2 _), K2.out.below (below_one w2 _) (Nat.le_refl _), RR.out.alloc _, Lies.new w2 _, Kp.bel M2.out (below_one w2 _)⟩ ?_
  rintro V ⟨pV, kV, rV, yV, mV⟩
  have hMR : w.heap.size < w2.heap.size := RR.out.lt
  have hMP : pb < w2.heap.size := P2.out.lt
  generalize w2.heap.size = M at *
  have HMR := Lib.hid hMR
  have HMP := Lib.hid hMP
  clear AX P2 K2 M2 RR RX BX
  try generalize (Value.agg #[.int .i64 y.h.kind, .int .i64 y.h.form, .string y.h.text, .int .i64 y.h.line, .int .i64 y.h.col, .slice ka2 (len y.k) kc2] : Value) = og3
  have hge : ∀ b, V.heap.size ≤ b → (Pm P [w.heap.size]) b := Pm.of HP.out (by have := rV.lt; simp; omega) mV.size
  have KS : Hid (∀ w' : World, w'.heap[M]? = V.heap[M]? → w'.cell? ⟨M, 0, none⟩ = some (.int .i64 y.h.kind) ∧ w'.cell? ⟨M, 1, none⟩ = some (.int .i64 y.h.form) ∧ w'.cell? ⟨M, 2, none⟩ = some (.string y.h.text) ∧ w'.cell? ⟨M, 3, none⟩ = some (.int .i64 y.h.line) ∧ w'.cell? ⟨M, 4, none⟩ = some (.int .i64 y.h.col) ∧ w'.cell? ⟨M, 5, none⟩ = some (.slice ka2 (len y.k) kc2)) := by
    intro w' hw
    exact Lies.node (show Lies w' M (ndO y.h (.slice ka2 (len y.k) kc2)) from hw.trans yV)
  obtain ⟨c0, c1, c2, c3, c4, c5⟩ := yV.node
  have IX := Lib.hid (CI.out _ V pV)
  have TV : Hid (∀ W : World, W.heap = V.heap → _) := fun W e => CT.out (Pm P [w.heap.size]) W (pV.same e) (by rw [e]; exact hge) HPQ.out
  have FV := Lib.hid (fun y0 => CF.out (Pm P [w.heap.size]) _ V kV pV y0 hge HPQ.out)
  have HGE := Lib.hid hge
  have RV := Lib.hid rV
  have KV := Lib.hid mV
  have KK := Lib.hid kV
  have ZV := Lib.hid yV.lt
  have m1 : ¬ w.heap.size = M := by omega
  have m2 : ¬ M = w.heap.size := by omega
  have hx := HX.out
  rw [if_pos Y0.out] at hx
  clear pV kV rV yV mV hge CI CT CF hMR hMP HX
  cases hi : isR y.s 10 [61, 62] with
  | false =>
    rw [hi] at IX
    rw [if_neg (by rw [hi]; decide)] at hx
    have FX := Lib.hid (FV.out Y0.out)
    rw [hx] at FX
    clear hi hx TV CW HTK
    go_wp2_with (first
      | (go_at_call 26; refine IX.out.mono ?_; rintro e w1 ⟨rfl, rfl⟩)
      | (go_at_call 30; refine FX.out.mono ?_; rintro e w3 h; rcases Classical.em (x.e = 0) with x0 | x0; rotate_left; (rw [POut.bad x0] at h; obtain ⟨ta4, tc4, oa4, oc4, rfl, s4, q4⟩ := h; refine ⟨rfl, ?_⟩; rw [POut.bad x0]; exact ⟨ta4, tc4, oa4, oc4, rfl, s4.less (fun b _ h => h.1), KV.out.trans q4⟩); rw [POut.ok x0] at h; obtain ⟨ka3, kc3, rfl, k3, p3, q3⟩ := h; have P3 := Lib.hid p3; have K3 := Lib.hid k3; have M3 := Lib.hid (KV.out.trans q3); have r4 := kp_lies q3 RV.out (by have := HLT.out; omega) (by simp); have X0 := Lib.hid x0; clear k3 p3 q3 x0; unfold zNd at r4; obtain ⟨⟨e0, e1, e2, e3, e4, e5⟩, f0, f1, f2, f3, f4, f5⟩ := r4.nodef; have R9 := Lib.hid r4; clear r4; unfold ndV))
    refine bodyPost_ret (res_nd Tryz.results14 rfl (Lies.all6 R9.out x.h (.slice ka3 (len x.k) kc3))) rfl ?_
    rw [POut.ok X0.out]
    exact six_ok K3.out P3.out M3.out (by have := HLT.out; omega) (Nat.le_refl _)
  | true =>
    rw [hi] at IX
    rw [if_pos hi] at hx
    have ht := HTK.out hi
    rw [ht] at hx
    dsimp only at hx
    generalize tk y.s = t1 at *
    generalize nx y.s = s2 at *
    generalize arrowsR A (A s2) = v at *
    have HX := Lib.hid hx
    clear hi hx ht FV HTK
    go_upto_region 3 with (first
      | (go_at_call 26; refine IX.out.mono ?_; rintro e w1 ⟨rfl, rfl⟩))
    go_region_held2 (fun w' => w'.cell? ⟨M, 0, none⟩ = some (.int .i64 y.h.kind) ∧ w'.cell? ⟨M, 1, none⟩ = some (.int .i64 y.h.form) ∧ w'.cell? ⟨M, 2, none⟩ = some (.string y.h.text) ∧ w'.cell? ⟨M, 3, none⟩ = some (.int .i64 y.h.line) ∧ w'.cell? ⟨M, 4, none⟩ = some (.int .i64 y.h.col) ∧ w'.cell? ⟨M, 5, none⟩ = some (.slice ka2 (len y.k) kc2)) (first | go_keep | exact S2) (first
      | (go_at_call 28; refine (TV.out _ (by rfl)).mono ?_; rintro e w3 ⟨rfl, p3, q3⟩; have K3 := Lib.hid (show Kp V w3 pb none from ⟨q3.os, q3.tape, q3.output, q3.size, q3.block⟩); have S2 := KS.out w3 (K3.out.block M ZV.out (by have := HMP.out; omega) (by simp)); have W3 := Lib.hid (CW.out (Pm P [w.heap.size]) w3 p3 (fun b hb => HGE.out b (Nat.le_trans q3.size hb)) HPQ.out); clear p3 q3)
      | (go_at_call 29; refine W3.out.mono ?_; rintro e w4 h; rcases Classical.em (v.e = 0) with y0 | y0; rotate_left; (rw [POut.bad y0] at h; obtain ⟨ta4, tc4, oa4, oc4, rfl, s4, q4⟩ := h; refine ⟨rfl, ?_⟩; rw [← HX.out, if_neg y0, POut.bad y0]; exact ⟨ta4, tc4, oa4, oc4, rfl, s4.less (fun b _ h => h.1), KV.out.trans (K3.out.trans q4)⟩); rw [POut.ok y0] at h; obtain ⟨ka4, kc4, rfl, k4, p4, q4⟩ := h; have KY := Lib.hid k4; have P4 := Lib.hid p4; have K4 := Lib.hid (K3.out.trans q4); have KU4 := Lib.hid (KOn.kp KK.out K4.out HPQ.out); have S2 := KS.out w4 (K4.out.block M ZV.out (by have := HMP.out; omega) (by simp)); have n4 : M < w4.heap.size := Nat.lt_of_lt_of_le ZV.out K4.out.size; have V0 := Lib.hid y0; clear k4 p4 q4 y0; unfold ndV)
      | (go_at_call 27; refine (node_any 38 _ 3 3 _).mono ?_; rintro e w5 ⟨rfl, b4⟩; have b5 : Below (w4.alloc (.cells #[.int .i64 y.h.kind, .int .i64 y.h.form, .string y.h.text, .int .i64 y.h.line, .int .i64 y.h.col, .slice ka2 (len y.k) kc2, .int .i64 1, .int .i64 t1.kind, .string t1.text, .int .i64 t1.line, .int .i64 t1.col, .slice none 0 0, .int .i64 v.h.kind, .int .i64 v.h.form, .string v.h.text, .int .i64 v.h.line, .int .i64 v.h.col, .slice ka4 (len v.k) kc4] 30)).heap.size (w4.alloc (.cells #[.int .i64 y.h.kind, .int .i64 y.h.form, .string y.h.text, .int .i64 y.h.line, .int .i64 y.h.col, .slice ka2 (len y.k) kc2, .int .i64 1, .int .i64 t1.kind, .string t1.text, .int .i64 t1.line, .int .i64 t1.col, .slice none 0 0, .int .i64 v.h.kind, .int .i64 v.h.form, .string v.h.text, .int .i64 v.h.line, .int .i64 v.h.col, .slice ka4 (len v.k) kc4] 30)) w5 := ⟨b4.os, b4.tape, b4.output, b4.size, b4.block⟩; have B5 := Lib.hid b5; have S2 := KS.out w5 ((b5.block M (by rw [World.size_alloc]; omega)).trans (((below_one w4 _).block M n4).trans (K4.out.block M ZV.out (by have := HMP.out; omega) (by simp)))); have r4 := (kp_lies K4.out RV.out (by have := HLT.out; omega) (by simp)); have r5 := (r4.alloc (.cells #[.int .i64 y.h.kind, .int .i64 y.h.form, .string y.h.text, .int .i64 y.h.line, .int .i64 y.h.col, .slice ka2 (len y.k) kc2, .int .i64 1, .int .i64 t1.kind, .string t1.text, .int .i64 t1.line, .int .i64 t1.col, .slice none 0 0, .int .i64 v.h.kind, .int .i64 v.h.form, .string v.h.text, .int .i64 v.h.line, .int .i64 v.h.col, .slice ka4 (len v.k) kc4] 30)).below b5 (by rw [World.size_alloc]; have := r4.lt; omega); clear b4 b5 r4; unfold zNd at r5; obtain ⟨⟨e0, e1, e2, e3, e4, e5⟩, f0, f1, f2, f3, f4, f5⟩ := r5.nodef; have R9 := Lib.hid r5; clear r5; unfold ndV))
    go_wp2_with fail
    refine bodyPost_ret (res_nd Tryz.results14 rfl (Lies.all6 R9.out (nodeH 38) (.slice (some ⟨w4.heap.size, 0, none⟩) 3 3))) rfl ?_
    have nl := NdP.lit (w := w4) (B := 0) (P := (Pm P [w.heap.size])) [(⟨y.h, y.k, .slice ka2 (len y.k) kc2⟩ : Nv), (⟨leafH t1, .nil, .slice none 0 0⟩ : Nv), (⟨v.h, v.k, .slice ka4 (len v.k) kc4⟩ : Nv)] (cs := #[.int .i64 y.h.kind, .int .i64 y.h.form, .string y.h.text, .int .i64 y.h.line, .int .i64 y.h.col, .slice ka2 (len y.k) kc2, .int .i64 1, .int .i64 t1.kind, .string t1.text, .int .i64 t1.line, .int .i64 t1.col, .slice none 0 0, .int .i64 v.h.kind, .int .i64 v.h.form, .string v.h.text, .int .i64 v.h.line, .int .i64 v.h.col, .slice ka4 (len v.k) kc4]) rfl (fun x hx => by rcases List.mem_cons.1 hx with e | e; exact e ▸ KU4.out ; rcases List.mem_cons.1 e with e | e; exact e ▸ KOn.nil .. ; exact (List.mem_singleton.1 e) ▸ KY.out) (Nat.zero_le _) (by unfold maxLen; simp) (HGE.out _ K4.out.size)
    have k4 := (nl.on (by unfold maxLen; simp)).below B5.out (Nat.le_refl _)
    have hx := HX.out
    rw [if_pos V0.out] at hx
    rw [← hx, POut.ok rfl]
    exact six_ok (x := ⟨nodeH 38, foL [(⟨y.h, y.k, .slice ka2 (len y.k) kc2⟩ : Nv), (⟨leafH t1, .nil, .slice none 0 0⟩ : Nv), (⟨v.h, v.k, .slice ka4 (len v.k) kc4⟩ : Nv)], v.s, 0⟩) k4 ((P4.out.below (below_one w4 _)).below B5.out) (Kp.bel (Kp.bel (KV.out.trans K4.out) (below_one w4 _)) B5.out) (by have := HLT.out; omega) (Nat.le_refl _)
end Go.Proofs.YtmgclgojmckfhaaGreatDoor.Typ
/-
  The program's parse: what it defers. No condition.
-/
namespace Go.Proofs.YtmgclgojmckfhaaGreatDoor.Typ
open Tks Tre Go.RowKit
open Lay (Sx StV Fit9 nextS NextOut tkV9 IntArg Kp)
set_option linter.unusedSimpArgs false
set_option linter.unusedVariables false

theorem frame19 (p q u v : Value) : #[p, q] ++ ((Array.replicate 17 undef).setIfInBounds 3 u).setIfInBounds 0 v = #[p, q, v, undef, undef, u, undef, undef, undef, undef, undef, undef, undef, undef, undef, undef, undef, undef, undef] := by
  apply Array.ext'
  simp [List.replicate]
def zFlt : Value := .agg #[.slice none 0 0, .int .i64 0, .slice none 0 0, .int .i64 0, .int .i64 0]
theorem assert_nil (w : World) : (Instr.typeAssert .nilIface 20 59 true).run Tryz.prog w = .ok (.tuple #[zFlt, .bool false]) w := by kernel_rfl
theorem assert_fault (v : Value) (w : World) : (Instr.typeAssert (.iface 59 v) 20 59 true).run Tryz.prog w = .ok (.tuple #[v, .bool true]) w := by
  simp [Instr.typeAssert, run_underlying Tryz.underlying59, go_sem]
set_option maxRecDepth 1000000 in
set_option maxHeartbeats 400000 in
theorem pcatch_idle (a b : Nat) (w : World) :
    CallsD Tryz.prog 23 #[.pointer (some ⟨a, 0, none⟩), .pointer (some ⟨b, 0, none⟩)] .returning w fun e u' w' => e = .returned (.tuple #[]) ∧ u' = .returning ∧ Below w.heap.size w w' := by
  refine callsD_of_wpS Tryz.func23 rfl fun c₀ cs hu => ?_
  apply wpS_seq
  apply wpS_region
  simp [wpOpsS, go_sem, recoverD, hu, Tryz.ntmps23, Exit.thenS]
  refine wpS_of_wp ?_
  have HU := Lib.hid hu
  clear hu
  rw [frame19]
  have ta := fun w => assert_nil w
  unfold zFlt at ta
  go_wp2
  have hb : Below w.heap.size w (w.alloc (fltO (.slice none 0 0) 0 (.slice none 0 0) 0 0)) := below_one w _
  refine ⟨rfl, .returning, ?_, .tuple #[], ?_, rfl, rfl, hb⟩
  · have := HU.out
    cases c₀
    simp_all
  · simp [results, Tryz.results23]
set_option maxRecDepth 1000000 in
set_option maxHeartbeats 400000 in
theorem pcatch_fault (a b : Nat) (ta : Option Addr) (tn tc : Nat) (i : Int) (oa : Option Addr) (on oc : Nat) (wt x : Int) (u0 u1 : Value) (i0 q0 : Int) (x2 : Value) (older : List PanicEntry) (w : World) (ha : Lies w a (stB u0 i0 u1 q0)) (hb : One w b x2 25) (hab : a < b) :
    CallsD Tryz.prog 23 #[.pointer (some ⟨a, 0, none⟩), .pointer (some ⟨b, 0, none⟩)] (.panicking ({ v := .iface 59 (fltV (.slice ta tn tc) i (.slice oa on oc) wt x), recovered := false } :: older)) w fun e u' w' =>
      e = .returned (.tuple #[]) ∧ u' = .panicking ({ v := .iface 59 (fltV (.slice ta tn tc) i (.slice oa on oc) wt x), recovered := true } :: older) ∧ Lies w' a (stB (.slice ta tn tc) i (.slice oa on oc) wt) ∧ One w' b (.int .i64 x) 25 ∧ (w'.os = w.os ∧ w'.tape = w.tape ∧ w'.output = w.output ∧ w.heap.size ≤ w'.heap.size ∧ ∀ k, k < w.heap.size → k ≠ a → k ≠ b → w'.heap[k]? = w.heap[k]?) := by
  refine callsD_of_wpS Tryz.func23 rfl fun c₀ cs hu => ?_
  unfold fltV at *
  apply wpS_seq
  apply wpS_region
  simp [wpOpsS, go_sem, recoverD, hu, Tryz.ntmps23, Exit.thenS]
  refine wpS_of_wp ?_
  have HU := Lib.hid hu
  clear hu
  rw [frame19]
  have tb := fun w => assert_fault (.agg #[.slice ta tn tc, .int .i64 i, .slice oa on oc, .int .i64 wt, .int .i64 x]) w
  have hT : Below w.heap.size w (w.alloc (fltO (.slice ta tn tc) i (.slice oa on oc) wt x)) := below_one w _
  have oa1 := ha.below hT ha.lt
  have ob1 : One (w.alloc (fltO (.slice ta tn tc) i (.slice oa on oc) wt x)) b x2 25 := Lies.below hb hT (Lies.lt hb)
  obtain ⟨p0, p1, p2, p3⟩ := four_st oa1
  obtain ⟨f0, f1, f2, f3⟩ := four_fr oa1
  have p4 := One.c0 ob1
  have f4 := Lies.free ob1 0
  obtain ⟨r0, r1, r2, r3⟩ := four_st ha
  obtain ⟨g0, g1, g2, g3⟩ := four_fr ha
  have r4 := One.c0 hb
  have g4 := Lies.free hb 0
  have n1 : ¬ a = b := by omega
  have n2 : ¬ b = a := by omega
  have m1 := ha.lt
  have m2 : b < w.heap.size := Lies.lt hb
  have HA := Lib.hid ha
  have HB' := Lib.hid hb
  clear ha hb hT oa1 ob1
  unfold fltO at *
  go_wp2
  go_region
  have lA : Lies ((Lay.set4 w a (.slice ta tn tc) (.int .i64 i) (.slice oa on oc) (.int .i64 wt)).setCell ⟨b, 0, none⟩ (.int .i64 x)) a (stB (.slice ta tn tc) i (.slice oa on oc) wt) := Lies.other (set4_lies HA.out _ _ _ _) n1 _
  have lB : One ((Lay.set4 w a (.slice ta tn tc) (.int .i64 i) (.slice oa on oc) (.int .i64 wt)).setCell ⟨b, 0, none⟩ (.int .i64 x)) b (.int .i64 x) 25 := One.set (show One (Lay.set4 w a (.slice ta tn tc) (.int .i64 i) (.slice oa on oc) (.int .i64 wt)) b x2 25 from set4_other HB'.out n2 _ _ _ _) _
  have sz : ((Lay.set4 w a (.slice ta tn tc) (.int .i64 i) (.slice oa on oc) (.int .i64 wt)).setCell ⟨b, 0, none⟩ (.int .i64 x)).heap.size = w.heap.size := by rw [World.size_setCell, set4_size]
  have kk : ∀ k, k ≠ a → k ≠ b → ((Lay.set4 w a (.slice ta tn tc) (.int .i64 i) (.slice oa on oc) (.int .i64 wt)).setCell ⟨b, 0, none⟩ (.int .i64 x)).heap[k]? = w.heap[k]? := fun k h1 h2 => (heap_set (p := ⟨b, 0, none⟩) h2).trans (set4_keep h1 _ _ _ _)
  have bb := bel_drew (below_one ((Lay.set4 w a (.slice ta tn tc) (.int .i64 i) (.slice oa on oc) (.int .i64 wt)).setCell ⟨b, 0, none⟩ (.int .i64 x)) (.cells #[.slice ta tn tc, .int .i64 i, .slice oa on oc, .int .i64 wt, .int .i64 x] 59))
  have b0 := (set4_below (Below.refl 0 w) (Nat.zero_le a) (.slice ta tn tc) (.int .i64 i) (.slice oa on oc) (.int .i64 wt)).setCell (p := ⟨b, 0, none⟩) (Nat.zero_le _) (.int .i64 x)
  refine ⟨rfl, .panicking ({ v := .iface 59 (.agg #[.slice ta tn tc, .int .i64 i, .slice oa on oc, .int .i64 wt, .int .i64 x]), recovered := true } :: older), ?_, .tuple #[], ?_, rfl, rfl, lA.below bb lA.lt, Lies.below lB bb (Lies.lt lB), bb.os.trans b0.os, bb.tape.trans b0.tape, bb.output.trans b0.output, ?_, ?_⟩
  · have := HU.out
    cases c₀
    simp_all
  · simp [results, Tryz.results23]
  · exact Nat.le_trans (Nat.le_of_eq sz.symm) bb.size
  · intro k hk h1 h2
    exact (bb.block k (by omega)).trans (kk k h1 h2)
end Go.Proofs.YtmgclgojmckfhaaGreatDoor.Typ
