/-
  The program's parser: square. Conditions: what the program's Next and arrow do, and sizes that are borne.
-/
import Derived.Test.YtmgclgojmckfhaaGreatDoorZPar
import Derived.Test.YtmgclgojmckfhaaGreatDoorZTypB
import Derived.Deep.RegionHeld2
namespace Go.Proofs.YtmgclgojmckfhaaGreatDoor.Typ
open Tks Tre Go.RowKit
open Lay (Sx StV Fit9 nextS NextOut tkV9 IntArg Kp)
set_option linter.unusedSimpArgs false
set_option linter.unusedVariables false

theorem Par.same {W W' : World} {P : Nat → Prop} {pb : Nat} {s : Sx} (h : Par W P pb s) (e : W'.heap = W.heap) : Par W' P pb s :=
  h.kept (by rw [e]; exact Nat.le_refl _) (by rw [e]) (fun b _ q => ⟨by rw [e], q⟩)
set_option maxRecDepth 1000000 in
set_option maxHeartbeats 1000000 in
theorem psquare_end {N : Nat} (hN : N ≤ 1099511627776) (hN2 : 12 * N + 20 ≤ 1099511627776) (R : NextOn 49) (T : Sx → Rd) (hTF : ∀ s, Fits N s → Fits N (T s).s) (hTL : ∀ s, Lv s (T s)) (deep deep1 : Int) (hd : IntKind.i64.wrap (deep - 1) = deep1) (P : Nat → Prop) (pb : Nat) (CA : ∀ (P : Nat → Prop) (s : Sx) (W : World), Par W P pb s → Fits N s → (∀ b, W.heap.size ≤ b → P b) → ¬ P pb → Calls Tryz.prog 29 #[.pointer (some ⟨pb, 0, none⟩), .int .i64 deep1] W (POut (T s) P pb none W)) (s : Sx) (w : World) (hp : Par w P pb s) (hf : Fits N s) (hP : ∀ b, w.heap.size ≤ b → P b) (hpb : ¬ P pb) (he : er s = 0) (hi : isR (takeR s).s 15 [93] = true) :
    Calls Tryz.prog 68 #[.pointer (some ⟨pb, 0, none⟩), .int .i64 deep] w (POut (squareR T (oneF (takeR s)) (takeR s).s) P pb none w) := by
  have CI := Lib.hid (fun Q W h => pis_any Q pb (nx s) 15 (by decide) ⟨#[93]⟩ W h)
  change Hid (∀ Q W, _ → Calls _ _ _ _ (fun e w' => e = .returned (.bool (isR (nx s) 15 [93])) ∧ _)) at CI
  have CT1 := Lib.hid (fun Q W a b d => ptake_any hN R Q pb (nx s) W a (fits_next hf) b d)
  unfold ndV leafH at CT1
  dsimp only at CT1
  have CT0 := Lib.hid (fun Q W a b d => ptake_any hN R Q pb s W a hf b d)
  unfold ndV at CT0
  have hty : takeR s = ⟨leafH (tk s), .nil, nx s, 0⟩ := if_pos he
  have HPA := Lib.hid hp
  have HP := Lib.hid hP
  have HPB := Lib.hid hpb
  have HPQ : Hid (¬ (Pm P [w.heap.size]) pb) := fun h => hpb h.1
  have HLT := Lib.hid hp.lt
  obtain ⟨x, hx⟩ : ∃ x, squareR T (oneF (takeR s)) (takeR s).s = x := ⟨_, rfl⟩
  rw [hx]
  rw [hty] at hx
  dsimp only at hx
  rw [hty] at hi
  dsimp only at hi
  rw [hi] at CI
  have IL1 := @is_less (nx s) 15 [93] hi (by decide)
  have hy1 : takeR (nx s) = ⟨leafH (tk (nx s)), .nil, nx (nx s), 0⟩ := take_ok IL1.1
  unfold squareR at hx
  rw [if_pos hi, closeR_eq, show wantR (nx s) 15 [93] = takeR (nx s) from if_pos hi, hy1] at hx
  dsimp only at hx
  rw [if_pos rfl] at hx
  generalize tk s = t0 at *
  generalize nx s = s1 at *
  generalize tk s1 = t1 at *
  generalize nx s1 = s2 at *
  have HX := Lib.hid hx
  clear hp hf hP hpb R hTF hTL hx hty CA he IL1 hy1 hi
  go_enter Tryz.func68, Tryz.ntmps68
  go_upto_region 1 with fail
  refine gen_world (fun X => Below w.heap.size w X ∧ Lies X w.heap.size zNd) ⟨below_one w _, Lies.new w _⟩ ?_
  rintro X ⟨bX, rX⟩
  have pX := HPA.out.into (l := [w.heap.size]) bX (by simp)
  have TX := Lib.hid (CT0.out (Pm P [w.heap.size]) X pX (Pm.of HP.out (by have := rX.lt; simp; omega) bX.size) HPQ.out)
  have BX := Lib.hid bX
  have RX := Lib.hid rX
  clear bX rX pX CT0 HPA
  go_upto_region 2 with (first
    | (go_at_call 28; refine TX.out.mono ?_; rintro e w2 ⟨rfl, p2, q2⟩; have P2 := Lib.hid p2; have K2 := Lib.hid ((Kp.of_below BX.out).trans q2); have RR := Lib.hid (kp_lies q2 RX.out (by have := HLT.out; omega) (by simp)); clear p2 q2))
  refine gen_world (fun V => Par V (Pm P [w.heap.size]) pb s1 ∧ Lies V w.heap.size zNd ∧ Lies V w2.heap.size (ndO (leafH t0) (.slice none 0 0)) ∧ Kp w V pb none ∧ w2.heap.size < V.heap.size) ⟨P2.out.below (below_one w2 _), RR.out.alloc _, Lies.new w2 _, Kp.bel K2.out (below_one w2 _), by rw [World.size_alloc]; omega⟩ ?_
  rintro V ⟨pV, rV, yV, kV, zV⟩
  have hMR : w.heap.size < w2.heap.size := RR.out.lt
  have hMP : pb < w2.heap.size := P2.out.lt
  generalize w2.heap.size = M at *
  clear TX P2 K2 RR RX BX
  have hge : ∀ b, V.heap.size ≤ b → (Pm P [w.heap.size]) b := Pm.of HP.out (by have := rV.lt; simp; omega) kV.size
  have IV := Lib.hid (CI.out _ V pV)
  have TV : Hid (∀ W : World, W.heap = V.heap → _) := fun W e => CT1.out (Pm P [w.heap.size]) W (pV.same e) (by rw [e]; exact hge) HPQ.out
  have KS : Hid (∀ w' : World, w'.heap[M]? = V.heap[M]? → w'.cell? ⟨M, 0, none⟩ = some (.int .i64 1) ∧ w'.cell? ⟨M, 1, none⟩ = some (.int .i64 t0.kind) ∧ w'.cell? ⟨M, 2, none⟩ = some (.string t0.text) ∧ w'.cell? ⟨M, 3, none⟩ = some (.int .i64 t0.line) ∧ w'.cell? ⟨M, 4, none⟩ = some (.int .i64 t0.col) ∧ w'.cell? ⟨M, 5, none⟩ = some (.slice none 0 0)) := by
    intro w' hw
    exact Lies.node (show Lies w' M (ndO (leafH t0) (.slice none 0 0)) from hw.trans yV)
  obtain ⟨c0, c1, c2, c3, c4, c5⟩ := yV.node
  dsimp only [leafH] at c0 c1 c2 c3 c4
  have HGE := Lib.hid hge
  have RV := Lib.hid rV
  have KV := Lib.hid kV
  have ZV := Lib.hid zV
  have HMR := Lib.hid hMR
  have HMP := Lib.hid hMP
  have m1 : ¬ w.heap.size = M := by omega
  have m2 : ¬ M = w.heap.size := by omega
  clear pV rV yV kV zV hge CI CT1 hMR hMP
  go_upto_region 3 with (first
    | (go_at_call 26; refine IV.out.mono ?_; rintro e w1 ⟨rfl, rfl⟩))
  go_region_held3 (fun w' => w'.cell? ⟨M, 0, none⟩ = some (.int .i64 1) ∧ w'.cell? ⟨M, 1, none⟩ = some (.int .i64 t0.kind) ∧ w'.cell? ⟨M, 2, none⟩ = some (.string t0.text) ∧ w'.cell? ⟨M, 3, none⟩ = some (.int .i64 t0.line) ∧ w'.cell? ⟨M, 4, none⟩ = some (.int .i64 t0.col) ∧ w'.cell? ⟨M, 5, none⟩ = some (.slice none 0 0)) (first | go_keep | exact S2) (first
    | (go_at_call 28; refine (TV.out _ (by rfl)).mono ?_; rintro e w3 ⟨rfl, p3, q3⟩; have K3 := Lib.hid (show Kp V w3 pb none from ⟨q3.os, q3.tape, q3.output, q3.size, q3.block⟩); have P3 := Lib.hid p3; have S2 := KS.out w3 (K3.out.block M ZV.out (by have := HMP.out; omega) (by simp)); have n3 : M < w3.heap.size := Nat.lt_of_lt_of_le ZV.out q3.size; clear p3 q3)
    | (go_at_call 27; refine (node_any 3 _ 2 2 _).mono ?_; rintro e w4 ⟨rfl, b4⟩; have b5 : Below (w3.alloc (.cells #[.int .i64 1, .int .i64 t0.kind, .string t0.text, .int .i64 t0.line, .int .i64 t0.col, .slice none 0 0, .int .i64 1, .int .i64 t1.kind, .string t1.text, .int .i64 t1.line, .int .i64 t1.col, .slice none 0 0] 30)).heap.size (w3.alloc (.cells #[.int .i64 1, .int .i64 t0.kind, .string t0.text, .int .i64 t0.line, .int .i64 t0.col, .slice none 0 0, .int .i64 1, .int .i64 t1.kind, .string t1.text, .int .i64 t1.line, .int .i64 t1.col, .slice none 0 0] 30)) w4 := ⟨b4.os, b4.tape, b4.output, b4.size, b4.block⟩; have B4 := Lib.hid b5; have S2 := KS.out w4 ((b5.block M (by rw [World.size_alloc]; omega)).trans (((below_one w3 _).block M n3).trans (K3.out.block M ZV.out (by have := HMP.out; omega) (by simp)))); have r4 := (kp_lies K3.out RV.out (by have := HLT.out; omega) (by simp)); have r5 := (r4.alloc (.cells #[.int .i64 1, .int .i64 t0.kind, .string t0.text, .int .i64 t0.line, .int .i64 t0.col, .slice none 0 0, .int .i64 1, .int .i64 t1.kind, .string t1.text, .int .i64 t1.line, .int .i64 t1.col, .slice none 0 0] 30)).below b5 (by rw [World.size_alloc]; have := r4.lt; omega); clear b4 b5 r4; unfold zNd at r5; obtain ⟨⟨e0, e1, e2, e3, e4, e5⟩, f0, f1, f2, f3, f4, f5⟩ := r5.nodef; have R9 := Lib.hid r5; clear r5; unfold ndV))
  go_wp2_with fail
  refine bodyPost_ret (res_nd Tryz.results68 rfl (Lies.all6 R9.out (nodeH 3) (.slice (some ⟨w3.heap.size, 0, none⟩) 2 2))) rfl ?_
  have nl := NdP.lit (w := w3) (B := 0) (P := (Pm P [w.heap.size])) [(⟨leafH t0, .nil, .slice none 0 0⟩ : Nv), (⟨leafH t1, .nil, .slice none 0 0⟩ : Nv)] (cs := #[.int .i64 1, .int .i64 t0.kind, .string t0.text, .int .i64 t0.line, .int .i64 t0.col, .slice none 0 0, .int .i64 1, .int .i64 t1.kind, .string t1.text, .int .i64 t1.line, .int .i64 t1.col, .slice none 0 0]) rfl (fun x hx => by rcases List.mem_cons.1 hx with e | e; exact e ▸ KOn.nil .. ; exact (List.mem_singleton.1 e) ▸ KOn.nil ..) (Nat.zero_le _) (by unfold maxLen; simp) (HGE.out _ K3.out.size)
  have k4 := (nl.on (by unfold maxLen; simp)).below B4.out (Nat.le_refl _)
  rw [← HX.out, POut.ok rfl]
  exact six_ok (x := ⟨nodeH 3, foL [(⟨leafH t0, .nil, .slice none 0 0⟩ : Nv), (⟨leafH t1, .nil, .slice none 0 0⟩ : Nv)], s2, 0⟩) k4 ((P3.out.below (below_one w3 _)).below B4.out) (Kp.bel (Kp.bel (KV.out.trans K3.out) (below_one w3 _)) B4.out) (by have := HLT.out; omega) (Nat.le_refl _)
set_option maxRecDepth 1000000 in
set_option maxHeartbeats 1000000 in
theorem psquare_type {N : Nat} (hN : N ≤ 1099511627776) (hN2 : 12 * N + 20 ≤ 1099511627776) (R : NextOn 49) (T : Sx → Rd) (hTF : ∀ s, Fits N s → Fits N (T s).s) (hTL : ∀ s, Lv s (T s)) (deep deep1 : Int) (hd : IntKind.i64.wrap (deep - 1) = deep1) (P : Nat → Prop) (pb : Nat) (CA : ∀ (P : Nat → Prop) (s : Sx) (W : World), Par W P pb s → Fits N s → (∀ b, W.heap.size ≤ b → P b) → ¬ P pb → Calls Tryz.prog 29 #[.pointer (some ⟨pb, 0, none⟩), .int .i64 deep1] W (POut (T s) P pb none W)) (s : Sx) (w : World) (hp : Par w P pb s) (hf : Fits N s) (hP : ∀ b, w.heap.size ≤ b → P b) (hpb : ¬ P pb) (he : er s = 0) (hi : isR (takeR s).s 15 [93] = false) :
    Calls Tryz.prog 68 #[.pointer (some ⟨pb, 0, none⟩), .int .i64 deep] w (POut (squareR T (oneF (takeR s)) (takeR s).s) P pb none w) := by
  have CI := Lib.hid (fun Q W h => pis_any Q pb (nx s) 15 (by decide) ⟨#[93]⟩ W h)
  change Hid (∀ Q W, _ → Calls _ _ _ _ (fun e w' => e = .returned (.bool (isR (nx s) 15 [93])) ∧ _)) at CI
  have CA1 := Lib.hid (fun Q W a b d => CA Q (nx s) W a (fits_next hf) b d)
  have CW := Lib.hid (fun Q W a b d => pwant_any hN R Q pb (T (nx s)).s 93 W a (hTF _ (fits_next hf)) b d)
  have CT0 := Lib.hid (fun Q W a b d => ptake_any hN R Q pb s W a hf b d)
  unfold ndV at CT0
  have hty : takeR s = ⟨leafH (tk s), .nil, nx s, 0⟩ := if_pos he
  have HPA := Lib.hid hp
  have HP := Lib.hid hP
  have HPB := Lib.hid hpb
  have HPQ : Hid (¬ (Pm P [w.heap.size]) pb) := fun h => hpb h.1
  have HLT := Lib.hid hp.lt
  obtain ⟨x, hx⟩ : ∃ x, squareR T (oneF (takeR s)) (takeR s).s = x := ⟨_, rfl⟩
  rw [hx]
  rw [hty] at hx
  dsimp only at hx
  rw [hty] at hi
  dsimp only at hi
  rw [hi] at CI
  unfold squareR at hx
  rw [if_neg (by rw [hi]; decide), closeR_eq] at hx
  generalize tk s = t0 at *
  generalize nx s = s1 at *
  generalize T s1 = u at *
  generalize wantR u.s 15 [93] = y at *
  have HX := Lib.hid hx
  clear hp hf hP hpb R hTF hTL hx hty CA he hi
  go_enter Tryz.func68, Tryz.ntmps68
  go_upto_region 1 with fail
  refine gen_world (fun X => Below w.heap.size w X ∧ Lies X w.heap.size zNd) ⟨below_one w _, Lies.new w _⟩ ?_
  rintro X ⟨bX, rX⟩
  have pX := HPA.out.into (l := [w.heap.size]) bX (by simp)
  have TX := Lib.hid (CT0.out (Pm P [w.heap.size]) X pX (Pm.of HP.out (by have := rX.lt; simp; omega) bX.size) HPQ.out)
  have BX := Lib.hid bX
  have RX := Lib.hid rX
  clear bX rX pX CT0 HPA
  go_upto_region 2 with (first
    | (go_at_call 28; refine TX.out.mono ?_; rintro e w2 ⟨rfl, p2, q2⟩; have P2 := Lib.hid p2; have K2 := Lib.hid ((Kp.of_below BX.out).trans q2); have RR := Lib.hid (kp_lies q2 RX.out (by have := HLT.out; omega) (by simp)); clear p2 q2))
  refine gen_world (fun V => Par V (Pm P [w.heap.size]) pb s1 ∧ Lies V w.heap.size zNd ∧ Lies V w2.heap.size (ndO (leafH t0) (.slice none 0 0)) ∧ Kp w V pb none ∧ w2.heap.size < V.heap.size) ⟨P2.out.below (below_one w2 _), RR.out.alloc _, Lies.new w2 _, Kp.bel K2.out (below_one w2 _), by rw [World.size_alloc]; omega⟩ ?_
  rintro V ⟨pV, rV, yV, kV, zV⟩
  have hMR : w.heap.size < w2.heap.size := RR.out.lt
  have hMP : pb < w2.heap.size := P2.out.lt
  generalize w2.heap.size = M at *
  clear TX P2 K2 RR RX BX
  have hge : ∀ b, V.heap.size ≤ b → (Pm P [w.heap.size]) b := Pm.of HP.out (by have := rV.lt; simp; omega) kV.size
  have IV := Lib.hid (CI.out _ V pV)
  have AV : Hid (∀ W : World, W.heap = V.heap → _) := fun W e => CA1.out (Pm P [w.heap.size]) W (pV.same e) (by rw [e]; exact hge) HPQ.out
  have KS : Hid (∀ w' : World, w'.heap[M]? = V.heap[M]? → w'.cell? ⟨M, 0, none⟩ = some (.int .i64 1) ∧ w'.cell? ⟨M, 1, none⟩ = some (.int .i64 t0.kind) ∧ w'.cell? ⟨M, 2, none⟩ = some (.string t0.text) ∧ w'.cell? ⟨M, 3, none⟩ = some (.int .i64 t0.line) ∧ w'.cell? ⟨M, 4, none⟩ = some (.int .i64 t0.col) ∧ w'.cell? ⟨M, 5, none⟩ = some (.slice none 0 0)) := by
    intro w' hw
    exact Lies.node (show Lies w' M (ndO (leafH t0) (.slice none 0 0)) from hw.trans yV)
  obtain ⟨c0, c1, c2, c3, c4, c5⟩ := yV.node
  dsimp only [leafH] at c0 c1 c2 c3 c4
  have HGE := Lib.hid hge
  have RV := Lib.hid rV
  have KV := Lib.hid kV
  have ZV := Lib.hid zV
  have HMR := Lib.hid hMR
  have HMP := Lib.hid hMP
  have m1 : ¬ w.heap.size = M := by omega
  have m2 : ¬ M = w.heap.size := by omega
  clear pV rV yV kV zV hge CI CA1 hMR hMP
  go_upto_region 4 with (first
    | (go_at_call 26; refine IV.out.mono ?_; rintro e w1 ⟨rfl, rfl⟩))
  go_region_held2 (fun w' => w'.cell? ⟨M, 0, none⟩ = some (.int .i64 1) ∧ w'.cell? ⟨M, 1, none⟩ = some (.int .i64 t0.kind) ∧ w'.cell? ⟨M, 2, none⟩ = some (.string t0.text) ∧ w'.cell? ⟨M, 3, none⟩ = some (.int .i64 t0.line) ∧ w'.cell? ⟨M, 4, none⟩ = some (.int .i64 t0.col) ∧ w'.cell? ⟨M, 5, none⟩ = some (.slice none 0 0)) (first | go_keep | exact S2) (first
    | (go_at_call 29; refine (AV.out _ (by rfl)).mono ?_; rintro e w3 h; rcases Classical.em (u.e = 0) with u0 | u0; rotate_left; (rw [POut.bad u0] at h; obtain ⟨ta4, tc4, oa4, oc4, rfl, s4, q4⟩ := h; refine ⟨rfl, ?_⟩; rw [← HX.out, if_neg u0, POut.bad u0]; exact ⟨ta4, tc4, oa4, oc4, rfl, s4.less (fun b _ h => h.1), KV.out.trans (show Kp V w3 pb none from ⟨q4.os, q4.tape, q4.output, q4.size, q4.block⟩)⟩); rw [POut.ok u0] at h; obtain ⟨ka3, kc3, rfl, k3, p3, q3⟩ := h; have K3 := Lib.hid (show Kp V w3 pb none from ⟨q3.os, q3.tape, q3.output, q3.size, q3.block⟩); have P3 := Lib.hid p3; have KU := Lib.hid k3; have S2 := KS.out w3 (K3.out.block M ZV.out (by have := HMP.out; omega) (by simp)); have U0 := Lib.hid u0; clear k3 p3 q3 u0; unfold ndV)
    | (go_at_call 92; refine (CW.out (Pm P [w.heap.size]) w3 P3.out (fun b hb => HGE.out b (Nat.le_trans K3.out.size hb)) HPQ.out).mono ?_; rintro e w4 h; rcases Classical.em (y.e = 0) with y0 | y0; rotate_left; (rw [POut.bad y0] at h; obtain ⟨ta4, tc4, oa4, oc4, rfl, s4, q4⟩ := h; refine ⟨rfl, ?_⟩; rw [← HX.out, if_pos U0.out, if_neg y0, POut.bad y0]; exact ⟨ta4, tc4, oa4, oc4, rfl, s4.less (fun b _ h => h.1), KV.out.trans (K3.out.trans q4)⟩); rw [POut.ok y0] at h; obtain ⟨ka4, kc4, rfl, k4, p4, q4⟩ := h; have KY := Lib.hid k4; have P4 := Lib.hid p4; have KU4 := Lib.hid (KOn.kp KU.out q4 HPQ.out); have K4 := Lib.hid (K3.out.trans q4); have S2 := KS.out w4 (K4.out.block M ZV.out (by have := HMP.out; omega) (by simp)); have n4 : M < w4.heap.size := Nat.lt_of_lt_of_le ZV.out K4.out.size; have Y0 := Lib.hid y0; clear k4 p4 q4 y0; unfold ndV)
    | (go_at_call 27; refine (node_any 6 _ 3 3 _).mono ?_; rintro e w5 ⟨rfl, b4⟩; have b5 : Below (w4.alloc (.cells #[.int .i64 1, .int .i64 t0.kind, .string t0.text, .int .i64 t0.line, .int .i64 t0.col, .slice none 0 0, .int .i64 u.h.kind, .int .i64 u.h.form, .string u.h.text, .int .i64 u.h.line, .int .i64 u.h.col, (.slice ka3 (len u.k) kc3), .int .i64 y.h.kind, .int .i64 y.h.form, .string y.h.text, .int .i64 y.h.line, .int .i64 y.h.col, (.slice ka4 (len y.k) kc4)] 30)).heap.size (w4.alloc (.cells #[.int .i64 1, .int .i64 t0.kind, .string t0.text, .int .i64 t0.line, .int .i64 t0.col, .slice none 0 0, .int .i64 u.h.kind, .int .i64 u.h.form, .string u.h.text, .int .i64 u.h.line, .int .i64 u.h.col, (.slice ka3 (len u.k) kc3), .int .i64 y.h.kind, .int .i64 y.h.form, .string y.h.text, .int .i64 y.h.line, .int .i64 y.h.col, (.slice ka4 (len y.k) kc4)] 30)) w5 := ⟨b4.os, b4.tape, b4.output, b4.size, b4.block⟩; have B5 := Lib.hid b5; have S2 := KS.out w5 ((b5.block M (by rw [World.size_alloc]; omega)).trans (((below_one w4 _).block M n4).trans (K4.out.block M ZV.out (by have := HMP.out; omega) (by simp)))); have r4 := (kp_lies K4.out RV.out (by have := HLT.out; omega) (by simp)); have r5 := (r4.alloc (.cells #[.int .i64 1, .int .i64 t0.kind, .string t0.text, .int .i64 t0.line, .int .i64 t0.col, .slice none 0 0, .int .i64 u.h.kind, .int .i64 u.h.form, .string u.h.text, .int .i64 u.h.line, .int .i64 u.h.col, (.slice ka3 (len u.k) kc3), .int .i64 y.h.kind, .int .i64 y.h.form, .string y.h.text, .int .i64 y.h.line, .int .i64 y.h.col, (.slice ka4 (len y.k) kc4)] 30)).below b5 (by rw [World.size_alloc]; have := r4.lt; omega); clear b4 b5 r4; unfold zNd at r5; obtain ⟨⟨e0, e1, e2, e3, e4, e5⟩, f0, f1, f2, f3, f4, f5⟩ := r5.nodef; have R9 := Lib.hid r5; clear r5; unfold ndV))
  go_wp2_with fail
  refine bodyPost_ret (res_nd Tryz.results68 rfl (Lies.all6 R9.out (nodeH 6) (.slice (some ⟨w4.heap.size, 0, none⟩) 3 3))) rfl ?_
  have nl := NdP.lit (w := w4) (B := 0) (P := (Pm P [w.heap.size])) [(⟨leafH t0, .nil, .slice none 0 0⟩ : Nv), (⟨u.h, u.k, (.slice ka3 (len u.k) kc3)⟩ : Nv), (⟨y.h, y.k, (.slice ka4 (len y.k) kc4)⟩ : Nv)] (cs := #[.int .i64 1, .int .i64 t0.kind, .string t0.text, .int .i64 t0.line, .int .i64 t0.col, .slice none 0 0, .int .i64 u.h.kind, .int .i64 u.h.form, .string u.h.text, .int .i64 u.h.line, .int .i64 u.h.col, (.slice ka3 (len u.k) kc3), .int .i64 y.h.kind, .int .i64 y.h.form, .string y.h.text, .int .i64 y.h.line, .int .i64 y.h.col, (.slice ka4 (len y.k) kc4)]) rfl (fun x hx => by rcases List.mem_cons.1 hx with e | e; exact e ▸ KOn.nil .. ; rcases List.mem_cons.1 e with e | e; exact e ▸ KU4.out ; exact (List.mem_singleton.1 e) ▸ KY.out) (Nat.zero_le _) (by unfold maxLen; simp) (HGE.out _ K4.out.size)
  have k4 := (nl.on (by unfold maxLen; simp)).below B5.out (Nat.le_refl _)
  have hx := HX.out
  rw [if_pos U0.out, if_pos Y0.out] at hx
  rw [← hx, POut.ok rfl]
  exact six_ok (x := ⟨nodeH 6, foL [(⟨leafH t0, .nil, .slice none 0 0⟩ : Nv), (⟨u.h, u.k, (.slice ka3 (len u.k) kc3)⟩ : Nv), (⟨y.h, y.k, (.slice ka4 (len y.k) kc4)⟩ : Nv)], y.s, 0⟩) k4 ((P4.out.below (below_one w4 _)).below B5.out) (Kp.bel (Kp.bel (KV.out.trans K4.out) (below_one w4 _)) B5.out) (by have := HLT.out; omega) (Nat.le_refl _)
end Go.Proofs.YtmgclgojmckfhaaGreatDoor.Typ
/-
  The program's parser: atom. Conditions: what the program's Next and arrow do, and sizes that are borne.
-/
namespace Go.Proofs.YtmgclgojmckfhaaGreatDoor.Typ
open Tks Tre Go.RowKit
open Lay (Sx StV Fit9 nextS NextOut tkV9 IntArg Kp)
set_option linter.unusedSimpArgs false
set_option linter.unusedVariables false

theorem name_er {s : Sx} (h : nameB (tk s) = true) : er s = 0 := by
  by_cases q : er s = 0
  · exact q
  · rw [tk_zero q] at h
    exact absurd h (by decide)
theorem atom_name {T : Sx → Rd} {s : Sx} (h : nameB (tk s) = true) : atomR T s = takeR s := by
  have he := name_er h
  have hk : startsB (tk s) = true ∧ (tk s).kind ≠ 15 := by
    unfold nameB at h
    unfold startsB
    simp only [Bool.or_eq_true, beq_iff_eq] at h ⊢
    refine ⟨?_, ?_⟩
    · rcases h with h | h | h
      · exact .inr (.inr (.inl h))
      · exact .inl h
      · exact .inr (.inl h)
    · rcases h with h | h | h <;> omega
  unfold atomR
  rw [if_pos (show (takeR s).e = 0 from by unfold takeR; rw [if_pos he]), if_pos hk.1, if_neg (fun q => hk.2 q.1), if_neg (fun q => hk.2 q.1)]
theorem is_parts {s : Sx} {k : Int} {x : List UInt8} (h : isR s k x = true) : er s = 0 ∧ (tk s).kind = k ∧ (tk s).text.data.toList = x := by
  unfold isR at h
  simp only [Bool.and_eq_true, beq_iff_eq] at h
  exact h
theorem atom_par {T : Sx → Rd} {s : Sx} (h : isR s 15 [40] = true) : atomR T s = roundR T (oneF (takeR s)) (takeR s).s := by
  obtain ⟨he, hk, ht⟩ := is_parts h
  unfold atomR
  rw [if_pos (is_take h).2, if_pos (by unfold startsB; rw [hk, ht]; rfl), if_pos ⟨hk, ht⟩]
theorem atom_brk {T : Sx → Rd} {s : Sx} (h : isR s 15 [91] = true) : atomR T s = squareR T (oneF (takeR s)) (takeR s).s := by
  obtain ⟨he, hk, ht⟩ := is_parts h
  unfold atomR
  rw [if_pos (is_take h).2, if_pos (by unfold startsB; rw [hk, ht]; rfl), if_neg (fun q => by rw [ht] at q; exact absurd q.2 (by decide)), if_pos ⟨hk, ht⟩]
theorem starts_eq (s : Sx) : startsB (tk s) = (nameB (tk s) || (isR s 15 [40] || isR s 15 [91])) := by
  rw [is_zero 15 [40] (by decide), is_zero 15 [91] (by decide)]
  unfold startsB nameB
  cases (tk s).kind == 1 <;> cases (tk s).kind == 2 <;> cases (tk s).kind == 4 <;> cases (tk s).kind == 15 <;> cases (tk s).text.data.toList == [40] <;> cases (tk s).text.data.toList == [91] <;> rfl
theorem atom_none {T : Sx → Rd} {s : Sx} (h1 : nameB (tk s) = false) (h2 : isR s 15 [40] = false) (h3 : isR s 15 [91] = false) : atomR T s = badR s := by
  have hs : startsB (tk s) = false := by rw [starts_eq, h1, h2, h3]; rfl
  unfold atomR
  by_cases he : er s = 0
  · rw [if_pos (show (takeR s).e = 0 from by unfold takeR; rw [if_pos he]), if_neg (by rw [hs]; decide)]
  · rw [if_neg (show ¬ (takeR s).e = 0 from by unfold takeR; rw [if_neg he]; exact he)]
    unfold takeR badR
    rw [if_neg he, if_neg he]
set_option maxRecDepth 1000000 in
set_option maxHeartbeats 1000000 in
theorem patom_any {N : Nat} (hN : N ≤ 1099511627776) (hN2 : 12 * N + 20 ≤ 1099511627776) (R : NextOn 49) (T : Sx → Rd) (hTF : ∀ s, Fits N s → Fits N (T s).s) (hTL : ∀ s, Lv s (T s)) (deep deep1 : Int) (hd : IntKind.i64.wrap (deep - 1) = deep1) (P : Nat → Prop) (pb : Nat) (CA : ∀ (P : Nat → Prop) (s : Sx) (W : World), Par W P pb s → Fits N s → (∀ b, W.heap.size ≤ b → P b) → ¬ P pb → Calls Tryz.prog 29 #[.pointer (some ⟨pb, 0, none⟩), .int .i64 deep1] W (POut (T s) P pb none W)) (s : Sx) (w : World) (hp : Par w P pb s) (hf : Fits N s) (hP : ∀ b, w.heap.size ≤ b → P b) (hpb : ¬ P pb) (h1d : 1 ≤ deep) :
    Calls Tryz.prog 50 #[.pointer (some ⟨pb, 0, none⟩), .int .i64 deep] w (POut (atomR T s) P pb none w) := by
  have C0 := Lib.hid (fun Q W h => pname_any Q pb s W h)
  have C1 := Lib.hid (fun Q W h => pis_any Q pb s 15 (by decide) ⟨#[40]⟩ W h)
  have C2 := Lib.hid (fun Q W h => pis_any Q pb s 15 (by decide) ⟨#[91]⟩ W h)
  change Hid (∀ Q W, _ → Calls _ _ _ _ (fun e w' => e = .returned (.bool (isR s 15 [40])) ∧ _)) at C1
  change Hid (∀ Q W, _ → Calls _ _ _ _ (fun e w' => e = .returned (.bool (isR s 15 [91])) ∧ _)) at C2
  have CT := Lib.hid (fun Q W a b d => ptake_any hN R Q pb s W a hf b d)
  unfold ndV at CT
  have CR := Lib.hid (fun Q W a b d he => pround_any hN hN2 R T hTF hTL deep deep1 hd Q pb CA s W a hf b d he)
  have CSE := Lib.hid (fun Q W a b d he hi => psquare_end hN hN2 R T hTF hTL deep deep1 hd Q pb CA s W a hf b d he hi)
  have CST := Lib.hid (fun Q W a b d he hi => psquare_type hN hN2 R T hTF hTL deep deep1 hd Q pb CA s W a hf b d he hi)
  have CW := Lib.hid (fun Q W a => wrong_any Q pb s W a)
  unfold fltV at CW
  have d0 : decide (deep < 1) = false := decide_eq_false (by omega)
  have HPA := Lib.hid hp
  have HP := Lib.hid hP
  have HPB := Lib.hid hpb
  have HPQ : Hid (¬ (Pm P [w.heap.size]) pb) := fun h => hpb h.1
  have HLT := Lib.hid hp.lt
  obtain ⟨x, hx⟩ : ∃ x, atomR T s = x := ⟨_, rfl⟩
  rw [hx]
  have HX := Lib.hid hx
  clear hp hf hP hpb R hTF hTL hx CA hd h1d
  go_enter Tryz.func50, Tryz.ntmps50
  go_upto_region 1 with fail
  refine gen_world (fun X => Below w.heap.size w X ∧ Lies X w.heap.size zNd) ⟨below_one w _, Lies.new w _⟩ ?_
  rintro X ⟨bX, rX⟩
  have pX := HPA.out.into (l := [w.heap.size]) bX (by simp)
  have hge : ∀ b, X.heap.size ≤ b → (Pm P [w.heap.size]) b := Pm.of HP.out (by have := rX.lt; simp; omega) bX.size
  have I0 := Lib.hid (C0.out _ X pX)
  have I1 := Lib.hid (C1.out _ X pX)
  have I2 := Lib.hid (C2.out _ X pX)
  have TX := Lib.hid (CT.out (Pm P [w.heap.size]) X pX hge HPQ.out)
  have RC := Lib.hid (CR.out (Pm P [w.heap.size]) X pX hge HPQ.out)
  have SE := Lib.hid (CSE.out (Pm P [w.heap.size]) X pX hge HPQ.out)
  have ST := Lib.hid (CST.out (Pm P [w.heap.size]) X pX hge HPQ.out)
  have WX := Lib.hid (CW.out (Pm P [w.heap.size]) X pX)
  have BX := Lib.hid bX
  have RX := Lib.hid rX
  clear bX rX pX hge C0 C1 C2 CT CR CSE CST CW HPA
  have u1 : True := trivial
  cases h0 : nameB (tk s) with
  | true =>
    rw [h0] at I0
    have hx := HX.out
    rw [atom_name h0, show takeR s = ⟨leafH (tk s), .nil, nx s, 0⟩ from if_pos (name_er h0)] at hx
    have HX := Lib.hid hx
    generalize tk s = t0 at *
    clear h0 hx RC SE ST WX I1 I2
    go_wp2_with (first
      | (go_at_call 51; refine I0.out.mono ?_; rintro e w1 ⟨rfl, rfl⟩)
      | (go_at_call 28; refine TX.out.mono ?_; rintro e w3 ⟨rfl, p3, q3⟩; have P3 := Lib.hid p3; have M3 := Lib.hid ((Kp.of_below BX.out).trans q3); have r4 := kp_lies q3 RX.out (by have := HLT.out; omega) (by simp); clear p3 q3; unfold zNd at r4; obtain ⟨⟨e0, e1, e2, e3, e4, e5⟩, f0, f1, f2, f3, f4, f5⟩ := r4.nodef; have R9 := Lib.hid r4; clear r4))
    refine bodyPost_ret (res_nd Tryz.results50 rfl (Lies.all6 R9.out (leafH t0) (.slice none 0 0))) rfl ?_
    rw [← HX.out, POut.ok rfl]
    exact six_ok (x := ⟨leafH t0, .nil, nx s, 0⟩) (KOn.nil ..) P3.out M3.out (by have := HLT.out; omega) (Nat.le_refl _)
  | false =>
    rw [h0] at I0
    cases h1 : isR s 15 [40] with
    | true =>
      rw [h1] at I1
      have RC := Lib.hid (RC.out (is_parts h1).1)
      rw [← atom_par h1, HX.out] at RC
      clear h0 h1 SE ST WX I2 TX
      by_cases z0 : x.e = 0
      · have RC := Lib.hid (as_ok RC.out z0)
        have Z0 := Lib.hid z0
        unfold OkOut ndV at RC
        clear z0
        go_wp2_with (first
          | (go_at_call 51; refine I0.out.mono ?_; rintro e w1 ⟨rfl, rfl⟩)
          | (go_at_call 26; clear u1; have u2 : True := trivial; refine I1.out.mono ?_; rintro e w1 ⟨rfl, rfl⟩)
          | (go_at_call 67; refine RC.out.mono ?_; rintro e w3 ⟨ka3, kc3, rfl, k3, p3, q3⟩; have P3 := Lib.hid p3; have K3 := Lib.hid k3; have M3 := Lib.hid ((Kp.of_below BX.out).trans q3); have r4 := kp_lies q3 RX.out (by have := HLT.out; omega) (by simp); clear k3 p3 q3; unfold zNd at r4; obtain ⟨⟨e0, e1, e2, e3, e4, e5⟩, f0, f1, f2, f3, f4, f5⟩ := r4.nodef; have R9 := Lib.hid r4; clear r4))
        refine bodyPost_ret (res_nd Tryz.results50 rfl (Lies.all6 R9.out x.h (.slice ka3 (len x.k) kc3))) rfl ?_
        rw [POut.ok Z0.out]
        exact six_ok K3.out P3.out M3.out (by have := HLT.out; omega) (Nat.le_refl _)
      · have RC := Lib.hid (as_bad RC.out z0)
        have Z0 := Lib.hid z0
        unfold BadOut fltV at RC
        clear z0
        go_wp2_with (first
          | (go_at_call 51; refine I0.out.mono ?_; rintro e w1 ⟨rfl, rfl⟩)
          | (go_at_call 26; clear u1; have u2 : True := trivial; refine I1.out.mono ?_; rintro e w1 ⟨rfl, rfl⟩)
          | (go_at_call 67; refine RC.out.mono ?_; rintro e w3 ⟨ta3, tc3, oa3, oc3, rfl, s3, q3⟩; have S3 := Lib.hid s3; have M3 := Lib.hid ((Kp.of_below BX.out).trans q3); clear s3 q3))
        refine ⟨rfl, ?_⟩
        rw [POut.bad Z0.out]
        exact ⟨ta3, tc3, oa3, oc3, rfl, S3.out.less (fun b _ h => h.1), M3.out⟩
    | false =>
      rw [h1] at I1
      cases h2 : isR s 15 [91] with
      | true =>
        rw [h2] at I2
        have SQ : Hid (Calls Tryz.prog 68 #[.pointer (some ⟨pb, 0, none⟩), .int .i64 deep] X (POut x (Pm P [w.heap.size]) pb none X)) := by
          rw [← HX.out, atom_brk h2]
          cases h3 : isR (takeR s).s 15 [93] with
          | true => exact SE.out (is_parts h2).1 h3
          | false => exact ST.out (is_parts h2).1 h3
        clear h0 h1 h2 SE ST WX RC TX
        by_cases z0 : x.e = 0
        · have SQ := Lib.hid (as_ok SQ.out z0)
          have Z0 := Lib.hid z0
          unfold OkOut ndV at SQ
          clear z0
          go_wp2_with (first
            | (go_at_call 51; refine I0.out.mono ?_; rintro e w1 ⟨rfl, rfl⟩)
            | (go_at_call 26; clear u1; have u2 : True := trivial; refine I1.out.mono ?_; rintro e w1 ⟨rfl, rfl⟩)
            | (go_at_call 26; clear u2; have u3 : True := trivial; refine I2.out.mono ?_; rintro e w1 ⟨rfl, rfl⟩)
            | (go_at_call 68; refine SQ.out.mono ?_; rintro e w3 ⟨ka3, kc3, rfl, k3, p3, q3⟩; have P3 := Lib.hid p3; have K3 := Lib.hid k3; have M3 := Lib.hid ((Kp.of_below BX.out).trans q3); have r4 := kp_lies q3 RX.out (by have := HLT.out; omega) (by simp); clear k3 p3 q3; unfold zNd at r4; obtain ⟨⟨e0, e1, e2, e3, e4, e5⟩, f0, f1, f2, f3, f4, f5⟩ := r4.nodef; have R9 := Lib.hid r4; clear r4))
          refine bodyPost_ret (res_nd Tryz.results50 rfl (Lies.all6 R9.out x.h (.slice ka3 (len x.k) kc3))) rfl ?_
          rw [POut.ok Z0.out]
          exact six_ok K3.out P3.out M3.out (by have := HLT.out; omega) (Nat.le_refl _)
        · have SQ := Lib.hid (as_bad SQ.out z0)
          have Z0 := Lib.hid z0
          unfold BadOut fltV at SQ
          clear z0
          go_wp2_with (first
            | (go_at_call 51; refine I0.out.mono ?_; rintro e w1 ⟨rfl, rfl⟩)
            | (go_at_call 26; clear u1; have u2 : True := trivial; refine I1.out.mono ?_; rintro e w1 ⟨rfl, rfl⟩)
            | (go_at_call 26; clear u2; have u3 : True := trivial; refine I2.out.mono ?_; rintro e w1 ⟨rfl, rfl⟩)
            | (go_at_call 68; refine SQ.out.mono ?_; rintro e w3 ⟨ta3, tc3, oa3, oc3, rfl, s3, q3⟩; have S3 := Lib.hid s3; have M3 := Lib.hid ((Kp.of_below BX.out).trans q3); clear s3 q3))
          refine ⟨rfl, ?_⟩
          rw [POut.bad Z0.out]
          exact ⟨ta3, tc3, oa3, oc3, rfl, S3.out.less (fun b _ h => h.1), M3.out⟩
      | false =>
        rw [h2] at I2
        have hx := HX.out
        rw [atom_none h0 h1 h2] at hx
        have hbs : (badR s).s = s := by
          unfold badR
          split <;> rfl
        have hbn := bad_ne s
        have wx := WX.out
        rw [hx] at hbs hbn wx
        have HBN := Lib.hid hbn
        have HBS := Lib.hid hbs
        have WX := Lib.hid wx
        clear h0 h1 h2 hx hbs hbn wx SE ST RC TX HX
        go_wp2_with (first
          | (go_at_call 51; refine I0.out.mono ?_; rintro e w1 ⟨rfl, rfl⟩)
          | (go_at_call 26; clear u1; have u2 : True := trivial; refine I1.out.mono ?_; rintro e w1 ⟨rfl, rfl⟩)
          | (go_at_call 26; clear u2; have u3 : True := trivial; refine I2.out.mono ?_; rintro e w1 ⟨rfl, rfl⟩)
          | (go_at_call 69; refine WX.out.mono ?_; rintro e w2 ⟨ta2, tc2, oa2, oc2, rfl, s2, b2⟩; have S2 := Lib.hid s2; have B2 := Lib.hid b2; clear s2 b2))
        refine ⟨rfl, ?_⟩
        rw [POut.bad HBN.out]
        unfold BadOut
        rw [HBS.out]
        exact ⟨ta2, tc2, oa2, oc2, rfl, S2.out.less (fun b _ h => h.1), Kp.of_below (afterL BX.out B2.out)⟩
set_option maxRecDepth 1000000 in
set_option maxHeartbeats 400000 in
theorem patom_deep (deep : Int) (h1d : deep < 1) (P : Nat → Prop) (pb : Nat) (s : Sx) (w : World) (hp : Par w P pb s) :
    Calls Tryz.prog 50 #[.pointer (some ⟨pb, 0, none⟩), .int .i64 deep] w (POut (errR s 2) P pb none w) := by
  have d0 : decide (deep < 1) = true := decide_eq_true h1d
  rw [POut.bad (show ¬ (errR s 2).e = 0 from (by decide : ¬ (2 : Int) = 0))]
  obtain ⟨ta1, tc1, oa1, oc1, ta2, tc2, oa2, oc2, hp, hs, hs2⟩ := hp
  have HPP := Lib.hid hp
  have HS := Lib.hid hs
  clear hp hs hs2 h1d
  go_enter Tryz.func50, Tryz.ntmps50
  go_upto_region 1 with fail
  refine gen_world (fun X => Below w.heap.size w X) (below_one w _) ?_
  rintro X bX
  have hpX := HPP.out.below bX HPP.out.lt
  obtain ⟨c0, c1, c2, c3, c4, c5, c6, c7, c8, c9, c10, c11, c12⟩ := thirteen hpX
  have BX := Lib.hid bX
  clear bX hpX
  go_wp2_with fail
  exact ⟨rfl, ta1, tc1, oa1, oc1, rfl, HS.out.below BX.out (Nat.le_refl _), Kp.of_below BX.out⟩
end Go.Proofs.YtmgclgojmckfhaaGreatDoor.Typ
