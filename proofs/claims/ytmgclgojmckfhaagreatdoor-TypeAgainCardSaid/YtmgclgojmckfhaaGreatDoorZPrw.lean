/-
  The program's parser: row. Conditions: what the program's Next and atom do, and sizes that are borne.
-/
import Derived.Test.YtmgclgojmckfhaaGreatDoorZPsq
namespace Go.Proofs.YtmgclgojmckfhaaGreatDoor.Typ
open Tks Tre Go.RowKit
open Lay (Sx StV Fit9 nextS NextOut tkV9 IntArg Kp)
set_option linter.unusedSimpArgs false
set_option linter.unusedVariables false

theorem own_ne {Z : World} {M n c : Nat} (h : M < Z.heap.size) : (Value.slice (some ⟨Z.heap.size, 0, none⟩) n c).ownBlock ≠ some M := fun e => by
  have e2 : Z.heap.size = M := by simpa [Value.ownBlock] using e
  omega
set_option maxRecDepth 1000000 in
set_option maxHeartbeats 2000000 in
theorem prow_any {N : Nat} (hN : N ≤ 1099511627776) (hN2 : 12 * N + 20 ≤ 1099511627776) (R : NextOn 49) (A : Sx → Rd) (hAF : ∀ s, Fits N s → Fits N (A s).s) (hAL : ∀ s, Lv s (A s)) (hAN : Ne A) (deep : Int) (P : Nat → Prop) (pb : Nat) (PA : ∀ (P : Nat → Prop) (s : Sx) (W : World), Par W P pb s → Fits N s → (∀ b, W.heap.size ≤ b → P b) → ¬ P pb → Calls Tryz.prog 50 #[.pointer (some ⟨pb, 0, none⟩), .int .i64 deep] W (POut (A s) P pb none W)) (s : Sx) (w : World) (hp : Par w P pb s) (hf : Fits N s) (hP : ∀ b, w.heap.size ≤ b → P b) (hpb : ¬ P pb) :
    Calls Tryz.prog 25 #[.pointer (some ⟨pb, 0, none⟩), .int .i64 deep] w (POut (rowR A s) P pb none w) := by
  have C0 := Lib.hid (fun Q s W h => pname_any Q pb s W h)
  have C1 := Lib.hid (fun Q s W h => pis_any Q pb s 15 (by decide) ⟨#[40]⟩ W h)
  have C2 := Lib.hid (fun Q s W h => pis_any Q pb s 15 (by decide) ⟨#[91]⟩ W h)
  change Hid (∀ Q s W, _ → Calls _ _ _ _ (fun e w' => e = .returned (.bool (isR s 15 [40])) ∧ _)) at C1
  change Hid (∀ Q s W, _ → Calls _ _ _ _ (fun e w' => e = .returned (.bool (isR s 15 [91])) ∧ _)) at C2
  have CA := Lib.hid PA
  have HAF := Lib.hid hAF
  have HAL := Lib.hid hAL
  have HAN := Lib.hid hAN
  have HN2 := Lib.hid hN2
  have HPA := Lib.hid hp
  have HP := Lib.hid hP
  have HPQ : Hid (¬ (Pm P [w.heap.size]) pb) := fun h => hpb h.1
  have HLT := Lib.hid hp.lt
  have HF := Lib.hid (hAF _ hf)
  have HLFY : Hid ((A s).e = 0 → lf (A s).s ≤ 6 * N + 2) := fun h => lv_lf hf (hAL s h) (hAN s h)
  have CA0 := Lib.hid (fun Q W a b d => PA Q s W a hf b d)
  have hx : rowR A s = rowF A (fu (A s).s) (oneF (A s)) (A s) := rfl
  have HX := Lib.hid hx
  generalize rowR A s = x at *
  generalize A s = y at *
  clear hp hf hP hpb R PA hAF hAL hAN hN2 hx
  go_enter Tryz.func25, Tryz.ntmps25
  go_upto_region 1 with fail
  refine gen_world (fun X => Below w.heap.size w X ∧ Lies X w.heap.size zNd) ⟨below_one w _, Lies.new w _⟩ ?_
  rintro X ⟨bX, rX⟩
  have pX := HPA.out.into (l := [w.heap.size]) bX (by simp)
  have AX := Lib.hid (CA0.out (Pm P [w.heap.size]) X pX (Pm.of HP.out (by have := rX.lt; simp; omega) bX.size) HPQ.out)
  have BX := Lib.hid bX
  have RX := Lib.hid rX
  clear bX rX pX CA0 HPA
  go_upto_region 2 with (first
    | (go_at_call 50; refine AX.out.mono ?_; rintro e w2 h; rcases Classical.em (y.e = 0) with q0 | q0; rotate_left; (rw [POut.bad q0] at h; obtain ⟨ta4, tc4, oa4, oc4, rfl, s4, q4⟩ := h; refine ⟨rfl, ?_⟩; rw [HX.out, rowF_err A _ q0, POut.bad q0]; exact ⟨ta4, tc4, oa4, oc4, rfl, s4.less (fun b _ h => h.1), (Kp.of_below BX.out).trans q4⟩); rw [POut.ok q0] at h; obtain ⟨ka2, kc2, rfl, k2, p2, q2⟩ := h; have P2 := Lib.hid p2; have K2 := Lib.hid k2; have M2 := Lib.hid ((Kp.of_below BX.out).trans q2); have RR := Lib.hid (kp_lies q2 RX.out (by have := HLT.out; omega) (by simp)); have Y0 := Lib.hid q0; clear k2 p2 q2 q0; unfold ndV))
  refine gen_world (fun Z => Par Z (Pm P [w.heap.size]) pb y.s ∧ KOn Z (Pm P [w.heap.size]) (.slice ka2 (len y.k) kc2) y.k ∧ Lies Z w.heap.size zNd ∧ Lies Z w2.heap.size (ndO y.h (.slice ka2 (len y.k) kc2)) ∧ Kp w Z pb none) ⟨P2.out.below (below_one w2 _), K2.out.below (below_one w2 _) (Nat.le_refl _), RR.out.alloc _, Lies.new w2 _, Kp.bel M2.out (below_one w2 _)⟩ ?_
  rintro Z ⟨pZ, kZ, rZ, yZ, mZ⟩
  have hMR : w.heap.size < w2.heap.size := RR.out.lt
  have hMP : pb < w2.heap.size := P2.out.lt
  generalize w2.heap.size = M at *
  have HMR := Lib.hid hMR
  have HMP := Lib.hid hMP
  clear AX P2 K2 M2 RR RX BX hMR hMP
  obtain ⟨c0, c1, c2, c3, c4, c5⟩ := yZ.node
  try generalize (Value.agg #[.int .i64 y.h.kind, .int .i64 y.h.form, .string y.h.text, .int .i64 y.h.line, .int .i64 y.h.col, .slice ka2 (len y.k) kc2] : Value) = og1
  go_upto_region 3 with fail
  obtain ⟨l8, hl8⟩ : ∃ l8 : List Nv, [(⟨y.h, y.k, .slice ka2 (len y.k) kc2⟩ : Nv)] = l8 := ⟨_, rfl⟩
  have E8 : Hid (foL l8 = oneF y) := by rw [← hl8]; rfl
  have HL8 : Hid (l8.length = 1) := by rw [← hl8]; rfl
  have hgeZ : ∀ b, Z.heap.size ≤ b → (Pm P [w.heap.size]) b := Pm.of HP.out (by have := rZ.lt; simp; omega) mZ.size
  refine gen_world (fun V => NdP V 0 (Pm P [w.heap.size]) (.slice (some ⟨Z.heap.size, 0, none⟩) 1 1) l8 ∧ Par V (Px (Pm P [w.heap.size]) (.slice (some ⟨Z.heap.size, 0, none⟩) 1 1)) pb y.s ∧ KOn V (Px (Pm P [w.heap.size]) (.slice (some ⟨Z.heap.size, 0, none⟩) 1 1)) (.slice ka2 (len y.k) kc2) y.k ∧ Lies V w.heap.size zNd ∧ Lies V M (ndO y.h (.slice ka2 (len y.k) kc2)) ∧ Mq w V pb (.slice none 0 0) (.slice (some ⟨Z.heap.size, 0, none⟩) 1 1) ∧ ((.slice (some ⟨Z.heap.size, 0, none⟩) 1 1) : Value).ownBlock ≠ some M) ⟨hl8 ▸ NdP.lit (w := Z) (B := 0) (P := (Pm P [w.heap.size])) [(⟨y.h, y.k, .slice ka2 (len y.k) kc2⟩ : Nv)] (cs := #[.int .i64 y.h.kind, .int .i64 y.h.form, .string y.h.text, .int .i64 y.h.line, .int .i64 y.h.col, .slice ka2 (len y.k) kc2]) rfl (fun x hx => by rw [List.mem_singleton.1 hx]; exact kZ) (Nat.zero_le _) (one_len _) (hgeZ _ (Nat.le_refl _)), pZ.lit _ _ _, KOn.lit kZ _ _ _, rZ.alloc _, yZ.alloc _, mq_lit mZ _ _ _, own_ne yZ.lt⟩ ?_
  rintro V ⟨nV, pV, kV, rV, yV, mV, oV⟩
  generalize ((.slice (some ⟨Z.heap.size, 0, none⟩) 1 1) : Value) = v1 at *
  clear hl8 pZ kZ rZ yZ mZ hgeZ c0 c1 c2 c3 c4 c5
  try generalize (Value.agg #[.int .i64 y.h.kind, .int .i64 y.h.form, .string y.h.text, .int .i64 y.h.line, .int .i64 y.h.col, .slice ka2 (len y.k) kc2] : Value) = og2
  have NV := Lib.hid nV
  have PV := Lib.hid pV
  have KV := Lib.hid kV
  have RV := Lib.hid rV
  have YV := Lib.hid yV
  have MV := Lib.hid mV
  have OV := Lib.hid oV
  clear nV pV kV rV yV mV oV
  go_loopw [6] (fun u wr => ∃ (l' : List Nv) (z : Rd) (f : Nat), NdP wr 0 (Pm P [w.heap.size]) u l' ∧ Par wr (Px (Pm P [w.heap.size]) u) pb z.s ∧ z.e = 0 ∧ Lies wr w.heap.size zNd ∧ Lies wr M (ndO y.h (.slice ka2 (len y.k) kc2)) ∧ KOn wr (Px (Pm P [w.heap.size]) u) (.slice ka2 (len y.k) kc2) y.k ∧ Mq w wr pb (.slice none 0 0) u ∧ Fits N z.s ∧ l'.length + lf z.s ≤ 6 * N + 3 ∧ lf z.s < f ∧ rowF A f (foL l') z = x ∧ 1 ≤ l'.length ∧ (l'.length = 1 → z = y) ∧ u.ownBlock ≠ some M) (fun u _ => 6 * N + 5 - lenOf u)
  case atStart =>
    have h1 := HL8.out
    have h2 := HLFY.out Y0.out
    exact ⟨l8, y, fu y.s, NV.out, PV.out, Y0.out, RV.out, YV.out, KV.out, MV.out, HF.out, by omega, Nat.lt_succ_self _, by rw [E8.out]; exact HX.out.symm, by omega, fun _ => rfl, OV.out⟩
  case round =>
    obtain ⟨l', z, f, hn, hp, z0, hr, hy, hky, hm, hf, hk, hlt, hx, h1, hzy, hom⟩ := hrel
    obtain ⟨va1, vc1, rfl⟩ := (hn.on (by have := HN2.out; unfold maxLen; omega)).len
    clear NV PV KV RV YV MV OV HX E8 HL8 HLFY HF Y0
    obtain ⟨f, rfl⟩ : ∃ g, f = g + 1 := ⟨f - 1, by omega⟩
    unfold rowF at hx
    rw [if_pos z0, starts_eq] at hx
    have I0 := Lib.hid (C0.out _ z.s wr hp)
    have I1 := Lib.hid (C1.out _ z.s wr hp)
    have I2 := Lib.hid (C2.out _ z.s wr hp)
    have AX := Lib.hid (CA.out _ z.s wr hp hf (px_ge hn (Pm.of HP.out (by have := hr.lt; simp; omega) hm.kp.size)) (fun h => HPQ.out h.1))
    have HFQ := Lib.hid (HAF.out _ hf)
    have HAL1 := Lib.hid (HAL.out z.s)
    have HAN1 := Lib.hid (HAN.out z.s)
    have HNX := Lib.hid hn
    have HPX := Lib.hid hp
    have MX := Lib.hid hm
    have RX := Lib.hid hr
    have YX := Lib.hid hy
    have HKY := Lib.hid hky
    have HKL := Lib.hid hk
    have HLF := Lib.hid hlt
    have H1 := Lib.hid h1
    have Z0 := Lib.hid z0
    have HZY := Lib.hid hzy
    have HOM := Lib.hid hom
    generalize A z.s = q at *
    have u1 : True := trivial
    clear hn hp hr hy hky hm hf hk hlt h1 z0 hzy hom C0 C1 C2 CA HAF HAL HAN
    cases b0 : nameB (tk z.s) with
    | true =>
      rw [b0] at hx I0
      rw [if_pos (by rfl)] at hx
      have HX := Lib.hid hx
      clear hx b0 I1 I2
      go_wp2_with (first
        | (go_at_call 51; refine I0.out.mono ?_; rintro e w1 ⟨rfl, rfl⟩)
        | (go_at_call 50; refine AX.out.mono ?_; rintro e w3 h; rcases Classical.em (q.e = 0) with q0 | q0; rotate_left; (rw [POut.bad q0] at h; obtain ⟨ta4, tc4, oa4, oc4, rfl, s4, q4⟩ := h; refine ⟨rfl, ?_⟩; rw [← HX.out, rowF_err A _ q0, POut.bad q0]; exact ⟨ta4, tc4, oa4, oc4, rfl, s4.less (fun b _ h => h.1.1), (MX.out.trans (Mq.of_kp q4)).kp⟩); rw [POut.ok q0] at h; obtain ⟨ka3, kc3, rfl, k3, p3, q3⟩ := h; have P3 := Lib.hid p3; have K3 := Lib.hid k3; have N3 := Lib.hid (HNX.out.kp q3 HPQ.out); have Y3 := Lib.hid (KOn.kp HKY.out q3 (fun h => HPQ.out h.1)); have M3 := Lib.hid (MX.out.trans (Mq.of_kp q3)); have R3 := Lib.hid (kp_lies q3 RX.out (by have := HLT.out; omega) (by simp)); have F3 := Lib.hid (kp_lies q3 YX.out (by have := HMP.out; omega) (by simp)); have Q0 := Lib.hid q0; clear k3 p3 q3 q0; unfold ndV)
        | (at_builtin; refine append_lit w3 rfl _ _ rfl 0 (Pm P [w.heap.size]) (.slice va1 (len (foL l')) vc1) l' [⟨q.h, q.k, .slice ka3 (len q.k) kc3⟩] rfl N3.out _ _ rfl _ _ rfl rfl (fun x hx => by rw [List.mem_singleton.1 hx]; exact K3.out) (by have := HKL.out; have := HN2.out; simp; omega) (Nat.zero_le _) (fun b hb => ⟨HP.out b (by have := M3.out.kp.size; omega), by have := R3.out.lt; simp; omega⟩) ?_; intro v4 w4 n4 m4; have P4 := Lib.hid (P3.out.move m4 (N3.out.noown HPQ.out)); have M4 := Lib.hid (M3.out.trans (Mq.of_mv m4)); have R4 := Lib.hid (m4.lies R3.out (fun e => (N3.out.own _ e).2 (by simp))); have F4 := Lib.hid (m4.lies F3.out (fun e => HOM.out e)); have Y4 := Lib.hid (m4.kid Y3.out); have O4 := Lib.hid (show v4.ownBlock ≠ some M from m4.ne HOM.out F3.out.lt); have N4 := Lib.hid n4; clear n4 m4))
      obtain ⟨va4, vc4, e4⟩ := N4.out.slice
      have hk := HKL.out
      have hl := HLF.out
      have hq := lv_lt (HAL1.out Q0.out) (HAN1.out Q0.out)
      refine ⟨⟨_, q, f, N4.out, P4.out, Q0.out, R4.out, F4.out, Y4.out, M4.out, HFQ.out, ?_, by omega, ?_, ?_, ?_, O4.out⟩, ?_⟩
      · rw [List.length_append, List.length_singleton]
        omega
      · rw [foL_push]
        exact HX.out
      · rw [List.length_append, List.length_singleton]
        omega
      · intro h
        rw [List.length_append, List.length_singleton] at h
        have := H1.out
        omega
      · rw [e4]
        simp only [lenOf, List.length_append, List.length_singleton, len_foL]
        omega
    | false =>
      rw [b0] at hx I0
      cases b1 : isR z.s 15 [40] with
      | true =>
        rw [b1] at hx I1
        rw [if_pos (by rfl)] at hx
        have HX := Lib.hid hx
        clear hx b0 b1 I2
        go_wp2_with (first
          | (go_at_call 51; refine I0.out.mono ?_; rintro e w1 ⟨rfl, rfl⟩)
          | (go_at_call 26; clear u1; have u2 : True := trivial; refine I1.out.mono ?_; rintro e w1 ⟨rfl, rfl⟩)
          | (go_at_call 50; refine AX.out.mono ?_; rintro e w3 h; rcases Classical.em (q.e = 0) with q0 | q0; rotate_left; (rw [POut.bad q0] at h; obtain ⟨ta4, tc4, oa4, oc4, rfl, s4, q4⟩ := h; refine ⟨rfl, ?_⟩; rw [← HX.out, rowF_err A _ q0, POut.bad q0]; exact ⟨ta4, tc4, oa4, oc4, rfl, s4.less (fun b _ h => h.1.1), (MX.out.trans (Mq.of_kp q4)).kp⟩); rw [POut.ok q0] at h; obtain ⟨ka3, kc3, rfl, k3, p3, q3⟩ := h; have P3 := Lib.hid p3; have K3 := Lib.hid k3; have N3 := Lib.hid (HNX.out.kp q3 HPQ.out); have Y3 := Lib.hid (KOn.kp HKY.out q3 (fun h => HPQ.out h.1)); have M3 := Lib.hid (MX.out.trans (Mq.of_kp q3)); have R3 := Lib.hid (kp_lies q3 RX.out (by have := HLT.out; omega) (by simp)); have F3 := Lib.hid (kp_lies q3 YX.out (by have := HMP.out; omega) (by simp)); have Q0 := Lib.hid q0; clear k3 p3 q3 q0; unfold ndV)
          | (at_builtin; refine append_lit w3 rfl _ _ rfl 0 (Pm P [w.heap.size]) (.slice va1 (len (foL l')) vc1) l' [⟨q.h, q.k, .slice ka3 (len q.k) kc3⟩] rfl N3.out _ _ rfl _ _ rfl rfl (fun x hx => by rw [List.mem_singleton.1 hx]; exact K3.out) (by have := HKL.out; have := HN2.out; simp; omega) (Nat.zero_le _) (fun b hb => ⟨HP.out b (by have := M3.out.kp.size; omega), by have := R3.out.lt; simp; omega⟩) ?_; intro v4 w4 n4 m4; have P4 := Lib.hid (P3.out.move m4 (N3.out.noown HPQ.out)); have M4 := Lib.hid (M3.out.trans (Mq.of_mv m4)); have R4 := Lib.hid (m4.lies R3.out (fun e => (N3.out.own _ e).2 (by simp))); have F4 := Lib.hid (m4.lies F3.out (fun e => HOM.out e)); have Y4 := Lib.hid (m4.kid Y3.out); have O4 := Lib.hid (show v4.ownBlock ≠ some M from m4.ne HOM.out F3.out.lt); have N4 := Lib.hid n4; clear n4 m4))
        obtain ⟨va4, vc4, e4⟩ := N4.out.slice
        have hk := HKL.out
        have hl := HLF.out
        have hq := lv_lt (HAL1.out Q0.out) (HAN1.out Q0.out)
        refine ⟨⟨_, q, f, N4.out, P4.out, Q0.out, R4.out, F4.out, Y4.out, M4.out, HFQ.out, ?_, by omega, ?_, ?_, ?_, O4.out⟩, ?_⟩
        · rw [List.length_append, List.length_singleton]
          omega
        · rw [foL_push]
          exact HX.out
        · rw [List.length_append, List.length_singleton]
          omega
        · intro h
          rw [List.length_append, List.length_singleton] at h
          have := H1.out
          omega
        · rw [e4]
          simp only [lenOf, List.length_append, List.length_singleton, len_foL]
          omega
      | false =>
        rw [b1] at hx I1
        cases b2 : isR z.s 15 [91] with
        | true =>
          rw [b2] at hx I2
          rw [if_pos (by rfl)] at hx
          have HX := Lib.hid hx
          clear hx b0 b1 b2
          go_wp2_with (first
            | (go_at_call 51; refine I0.out.mono ?_; rintro e w1 ⟨rfl, rfl⟩)
            | (go_at_call 26; clear u1; have u2 : True := trivial; refine I1.out.mono ?_; rintro e w1 ⟨rfl, rfl⟩)
            | (go_at_call 26; clear u2; have u3 : True := trivial; refine I2.out.mono ?_; rintro e w1 ⟨rfl, rfl⟩)
            | (go_at_call 50; refine AX.out.mono ?_; rintro e w3 h; rcases Classical.em (q.e = 0) with q0 | q0; rotate_left; (rw [POut.bad q0] at h; obtain ⟨ta4, tc4, oa4, oc4, rfl, s4, q4⟩ := h; refine ⟨rfl, ?_⟩; rw [← HX.out, rowF_err A _ q0, POut.bad q0]; exact ⟨ta4, tc4, oa4, oc4, rfl, s4.less (fun b _ h => h.1.1), (MX.out.trans (Mq.of_kp q4)).kp⟩); rw [POut.ok q0] at h; obtain ⟨ka3, kc3, rfl, k3, p3, q3⟩ := h; have P3 := Lib.hid p3; have K3 := Lib.hid k3; have N3 := Lib.hid (HNX.out.kp q3 HPQ.out); have Y3 := Lib.hid (KOn.kp HKY.out q3 (fun h => HPQ.out h.1)); have M3 := Lib.hid (MX.out.trans (Mq.of_kp q3)); have R3 := Lib.hid (kp_lies q3 RX.out (by have := HLT.out; omega) (by simp)); have F3 := Lib.hid (kp_lies q3 YX.out (by have := HMP.out; omega) (by simp)); have Q0 := Lib.hid q0; clear k3 p3 q3 q0; unfold ndV)
            | (at_builtin; refine append_lit w3 rfl _ _ rfl 0 (Pm P [w.heap.size]) (.slice va1 (len (foL l')) vc1) l' [⟨q.h, q.k, .slice ka3 (len q.k) kc3⟩] rfl N3.out _ _ rfl _ _ rfl rfl (fun x hx => by rw [List.mem_singleton.1 hx]; exact K3.out) (by have := HKL.out; have := HN2.out; simp; omega) (Nat.zero_le _) (fun b hb => ⟨HP.out b (by have := M3.out.kp.size; omega), by have := R3.out.lt; simp; omega⟩) ?_; intro v4 w4 n4 m4; have P4 := Lib.hid (P3.out.move m4 (N3.out.noown HPQ.out)); have M4 := Lib.hid (M3.out.trans (Mq.of_mv m4)); have R4 := Lib.hid (m4.lies R3.out (fun e => (N3.out.own _ e).2 (by simp))); have F4 := Lib.hid (m4.lies F3.out (fun e => HOM.out e)); have Y4 := Lib.hid (m4.kid Y3.out); have O4 := Lib.hid (show v4.ownBlock ≠ some M from m4.ne HOM.out F3.out.lt); have N4 := Lib.hid n4; clear n4 m4))
          obtain ⟨va4, vc4, e4⟩ := N4.out.slice
          have hk := HKL.out
          have hl := HLF.out
          have hq := lv_lt (HAL1.out Q0.out) (HAN1.out Q0.out)
          refine ⟨⟨_, q, f, N4.out, P4.out, Q0.out, R4.out, F4.out, Y4.out, M4.out, HFQ.out, ?_, by omega, ?_, ?_, ?_, O4.out⟩, ?_⟩
          · rw [List.length_append, List.length_singleton]
            omega
          · rw [foL_push]
            exact HX.out
          · rw [List.length_append, List.length_singleton]
            omega
          · intro h
            rw [List.length_append, List.length_singleton] at h
            have := H1.out
            omega
          · rw [e4]
            simp only [lenOf, List.length_append, List.length_singleton, len_foL]
            omega
        | false =>
          rw [b2] at hx I2
          rw [if_neg (by decide)] at hx
          have KA := Lib.hid (HNX.out.on (by have := HKL.out; have := HN2.out; unfold maxLen; omega))
          have HLEN := Lib.hid (len_foL l')
          clear b0 b1 b2 AX HAL1 HAN1
          go_upto_region 5 with (first
            | (go_at_call 51; refine I0.out.mono ?_; rintro e w1 ⟨rfl, rfl⟩)
            | (go_at_call 26; clear u1; have u2 : True := trivial; refine I1.out.mono ?_; rintro e w1 ⟨rfl, rfl⟩)
            | (go_at_call 26; clear u2; have u3 : True := trivial; refine I2.out.mono ?_; rintro e w1 ⟨rfl, rfl⟩))
          by_cases h2 : 1 < len (foL l')
          · rw [if_pos h2] at hx
            have HX := Lib.hid hx
            have d1 : (((len (foL l') : Nat) : Int) == 1) = false := beq_eq_false_iff_ne.2 (by have := HLEN.out; omega)
            have d2 : (len (foL l') == 1) = false := beq_eq_false_iff_ne.2 (by have := HLEN.out; omega)
            have ND := Lib.hid (fun W => node_any 39 va1 (len (foL l')) vc1 W)
            clear hx h2
            go_wp2_with (first
              | (go_at_call 27; refine (ND.out _).mono ?_; rintro e w4 ⟨rfl, b4⟩; have B4 := Lib.hid b4; have r4 := RX.out.below b4 RX.out.lt; clear b4; unfold zNd at r4; obtain ⟨⟨e0, e1, e2, e3, e4, e5⟩, f0, f1, f2, f3, f4, f5⟩ := r4.nodef; have R9 := Lib.hid r4; clear r4; unfold ndV))
            refine bodyPost_ret (res_nd Tryz.results25 rfl (Lies.all6 R9.out (nodeH 39) (.slice va1 (len (foL l')) vc1))) rfl ?_
            rw [← HX.out, POut.ok rfl]
            exact six_ok (x := ⟨nodeH 39, foL l', z.s, 0⟩) (KA.out.below B4.out (Nat.le_refl _)) ((HPX.out.below B4.out).less (fun b _ h => h.1)) (Kp.bel MX.out.kp B4.out) (by have := HLT.out; omega) (Nat.le_refl _)
          · rw [if_neg h2] at hx
            have hz := HZY.out (by have := H1.out; have := HLEN.out; omega)
            have d1 : (((len (foL l') : Nat) : Int) == 1) = true := beq_iff_eq.2 (by have := H1.out; have := HLEN.out; omega)
            have d2 : (len (foL l') == 1) = true := beq_iff_eq.2 (by have := H1.out; have := HLEN.out; omega)
            have hxy : x = y := by rw [← hx, hz]
            have hps := HPX.out
            rw [hz] at hps
            have hze := Z0.out
            rw [hz] at hze
            have YE := Lib.hid hze
            have HPY := Lib.hid hps
            have HXY := Lib.hid hxy
            obtain ⟨c0, c1, c2, c3, c4, c5⟩ := YX.out.node
            have r4 := RX.out
            unfold zNd at r4
            obtain ⟨⟨e0, e1, e2, e3, e4, e5⟩, f0, f1, f2, f3, f4, f5⟩ := r4.nodef
            have R9 := Lib.hid r4
            clear hx h2 hz hxy hps hze r4
            go_wp2_with fail
            refine bodyPost_ret (res_nd Tryz.results25 rfl (Lies.all6 R9.out y.h (.slice ka2 (len y.k) kc2))) rfl ?_
            rw [HXY.out, POut.ok YE.out]
            exact six_ok (HKY.out.less (fun b h => h.1)) (HPY.out.less (fun b _ h => h.1)) MX.out.kp (by have := HLT.out; omega) (Nat.le_refl _)
end Go.Proofs.YtmgclgojmckfhaaGreatDoor.Typ
/-
  The program's parser: arrowFrom, arrow. Conditions: what the program's Next and row do, and sizes that are borne.
-/
namespace Go.Proofs.YtmgclgojmckfhaaGreatDoor.Typ
open Tks Tre Go.RowKit
open Lay (Sx StV Fit9 nextS NextOut tkV9 IntArg Kp)
set_option linter.unusedSimpArgs false
set_option linter.unusedVariables false

set_option maxRecDepth 1000000 in
set_option maxHeartbeats 2000000 in
theorem pfrom_any {N : Nat} (hN : N ≤ 1099511627776) (hN2 : 20 * N + 20 ≤ 1099511627776) (R : NextOn 49) (A : Sx → Rd) (hAF : ∀ s, Fits N s → Fits N (A s).s) (hAL : ∀ s, Lv s (A s)) (deep : Int) (P : Nat → Prop) (pb : Nat) (PR : ∀ (P : Nat → Prop) (s : Sx) (W : World), Par W P pb s → Fits N s → (∀ b, W.heap.size ≤ b → P b) → ¬ P pb → Calls Tryz.prog 25 #[.pointer (some ⟨pb, 0, none⟩), .int .i64 deep] W (POut (A s) P pb none W)) (y : Rd) (kv : Value) (w : World) (hk : KOn w P kv y.k) (hp : Par w P pb y.s) (y0 : y.e = 0) (hf : Fits N y.s) (hP : ∀ b, w.heap.size ≤ b → P b) (hpb : ¬ P pb) (hlf : lf y.s ≤ 6 * N + 2) :
    Calls Tryz.prog 30 #[.pointer (some ⟨pb, 0, none⟩), ndV y.h kv, .int .i64 deep] w (POut (arrowsR A y) P pb none w) := by
  obtain ⟨ka, kc, rfl⟩ := hk.len
  have CI := Lib.hid (fun Q s W h => pis_any Q pb s 10 (by decide) ⟨#[45, 62]⟩ W h)
  change Hid (∀ Q s W, _ → Calls _ _ _ _ (fun e w' => e = .returned (.bool (isR s 10 [45, 62])) ∧ _)) at CI
  have CT := Lib.hid (fun Q s W a hf b d => ptake_any hN R Q pb s W a hf b d)
  unfold ndV at CT
  have CA := Lib.hid PR
  have HAF := Lib.hid hAF
  have HAL := Lib.hid hAL
  have HN2 := Lib.hid hN2
  have HK := Lib.hid hk
  have HPA := Lib.hid hp
  have HP := Lib.hid hP
  have HPB := Lib.hid hpb
  have HLT := Lib.hid hp.lt
  have HF := Lib.hid hf
  have HLFY := Lib.hid hlf
  have Y0 := Lib.hid y0
  have HX0 : Hid ((if isR y.s 10 [45, 62] = true then arrowF A (lf y.s + 1) (oneF y) y.s else y) = arrowsR A y) := by
    unfold Hid arrowsR
    cases hi : isR y.s 10 [45, 62] with
    | true =>
      rw [if_pos rfl, if_pos ⟨y0, rfl⟩]
      rfl
    | false => rw [if_neg (by decide), if_neg (fun q => absurd q.2 (by decide))]
  generalize arrowsR A y = x at *
  unfold ndV
  clear hk hp hf hP hpb R PR hAF hAL hN2 hlf y0
  go_enter Tryz.func30, Tryz.ntmps30
  go_upto_region 1 with fail
  refine gen_world (fun X => Below w.heap.size w X ∧ Lies X w.heap.size (ndO y.h (.slice ka (len y.k) kc)) ∧ Lies X (w.heap.size + 1) zNd) ⟨below_two' w _ _, (two_lie w _ _).1, (two_lie w _ _).2⟩ ?_
  rintro X ⟨bX, yX, rX⟩
  have HR2 : Hid (w.heap.size < w.heap.size + 1) := Nat.lt_succ_self _
  generalize w.heap.size + 1 = R2 at *
  have HPQ : Hid (¬ (Pm P [R2]) pb) := fun h => HPB.out h.1
  have pX : Par X (Pm P [R2]) pb y.s := HPA.out.into (l := [R2]) bX (by have := HR2.out; simp; omega)
  have kX : KOn X (Pm P [R2]) (.slice ka (len y.k) kc) y.k := KOn.into HK.out (l := [R2]) bX (by have := HR2.out; simp; omega)
  have hgeX : ∀ b, X.heap.size ≤ b → (Pm P [R2]) b := Pm.of HP.out (by have := rX.lt; simp; omega) bX.size
  have BX := Lib.hid bX
  obtain ⟨c0, c1, c2, c3, c4, c5⟩ := yX.node
  try generalize (Value.agg #[.int .i64 y.h.kind, .int .i64 y.h.form, .string y.h.text, .int .i64 y.h.line, .int .i64 y.h.col, .slice ka (len y.k) kc] : Value) = og1
  go_upto_region 2 with fail
  obtain ⟨l8, hl8⟩ : ∃ l8 : List Nv, [(⟨y.h, y.k, .slice ka (len y.k) kc⟩ : Nv)] = l8 := ⟨_, rfl⟩
  have E8 : Hid (foL l8 = oneF y) := by rw [← hl8]; rfl
  have HL8 : Hid (l8.length = 1) := by rw [← hl8]; rfl
  refine gen_world (fun V => NdP V 0 (Pm P [R2]) (.slice (some ⟨X.heap.size, 0, none⟩) 1 1) l8 ∧ Par V (Px (Pm P [R2]) (.slice (some ⟨X.heap.size, 0, none⟩) 1 1)) pb y.s ∧ KOn V (Px (Pm P [R2]) (.slice (some ⟨X.heap.size, 0, none⟩) 1 1)) (.slice ka (len y.k) kc) y.k ∧ Lies V R2 zNd ∧ Lies V w.heap.size (ndO y.h (.slice ka (len y.k) kc)) ∧ Mq w V pb (.slice none 0 0) (.slice (some ⟨X.heap.size, 0, none⟩) 1 1) ∧ ((.slice (some ⟨X.heap.size, 0, none⟩) 1 1) : Value).ownBlock ≠ some w.heap.size) ⟨hl8 ▸ NdP.lit (w := X) (B := 0) (P := (Pm P [R2])) [(⟨y.h, y.k, .slice ka (len y.k) kc⟩ : Nv)] (cs := #[.int .i64 y.h.kind, .int .i64 y.h.form, .string y.h.text, .int .i64 y.h.line, .int .i64 y.h.col, .slice ka (len y.k) kc]) rfl (fun x hx => by rw [List.mem_singleton.1 hx]; exact kX) (Nat.zero_le _) (one_len _) (hgeX _ (Nat.le_refl _)), pX.lit _ _ _, KOn.lit kX _ _ _, rX.alloc _, yX.alloc _, mq_lit (Kp.of_below bX) _ _ _, own_ne yX.lt⟩ ?_
  rintro V ⟨nV, pV, kV, rV, yV, mV, oV⟩
  clear hl8 pX kX rX yX bX hgeX c0 c1 c2 c3 c4 c5 HPA HK BX
  try generalize (Value.agg #[.int .i64 y.h.kind, .int .i64 y.h.form, .string y.h.text, .int .i64 y.h.line, .int .i64 y.h.col, .slice ka (len y.k) kc] : Value) = og2
  generalize ((.slice (some ⟨X.heap.size, 0, none⟩) 1 1) : Value) = v1 at *
  have NV := Lib.hid nV
  have PV := Lib.hid pV
  have KV := Lib.hid kV
  have RV := Lib.hid rV
  have YV := Lib.hid yV
  have MV := Lib.hid mV
  have OV := Lib.hid oV
  clear nV pV kV rV yV mV oV
  go_loopw [7] (fun u wr => ∃ (l' : List Nv) (s' : Sx) (f : Nat), NdP wr 0 (Pm P [R2]) u l' ∧ Par wr (Px (Pm P [R2]) u) pb s' ∧ Lies wr R2 zNd ∧ Lies wr w.heap.size (ndO y.h (.slice ka (len y.k) kc)) ∧ KOn wr (Px (Pm P [R2]) u) (.slice ka (len y.k) kc) y.k ∧ Mq w wr pb (.slice none 0 0) u ∧ Fits N s' ∧ l'.length + 2 * lf s' ≤ 12 * N + 5 ∧ lf s' ≤ f ∧ (if isR s' 10 [45, 62] = true then arrowF A (f + 1) (foL l') s' else if l'.length = 1 then y else ⟨nodeH 37, foL l', s', 0⟩) = x ∧ 1 ≤ l'.length ∧ (l'.length = 1 → s' = y.s) ∧ u.ownBlock ≠ some w.heap.size) (fun u _ => 12 * N + 10 - lenOf u)
  case atStart =>
    have h1 := HL8.out
    have h2 := HLFY.out
    exact ⟨l8, y.s, lf y.s, NV.out, PV.out, RV.out, YV.out, KV.out, MV.out, HF.out, by omega, Nat.le_refl _, by rw [E8.out, if_pos h1]; exact HX0.out, by omega, fun _ => rfl, OV.out⟩
  case round =>
    obtain ⟨l', s', f, hn, hp, hr, hy, hky, hm, hf, hk, hlt, hx, h1, hsy, hom⟩ := hrel
    obtain ⟨va1, vc1, rfl⟩ := (hn.on (by have := HN2.out; unfold maxLen; omega)).len
    clear NV PV KV RV YV MV OV HX0 E8 HL8 HLFY HF
    have hge := px_ge hn (Pm.of (l := [R2]) HP.out (by have := hr.lt; simp; omega) hm.kp.size)
    have IX := Lib.hid (CI.out _ s' wr hp)
    have TX := Lib.hid (CT.out _ s' wr hp hf hge (fun h => HPQ.out h.1))
    have HGE := Lib.hid hge
    have HFT := Lib.hid (fits_next hf)
    have HNX := Lib.hid hn
    have HPX := Lib.hid hp
    have MX := Lib.hid hm
    have RX := Lib.hid hr
    have YX := Lib.hid hy
    have HKY := Lib.hid hky
    have HKL := Lib.hid hk
    have HLF := Lib.hid hlt
    have H1 := Lib.hid h1
    have HSY := Lib.hid hsy
    have HOM := Lib.hid hom
    have IL := @is_less s' 10 [45, 62]
    clear hn hp hr hy hky hm hf hk hlt h1 hsy hom hge CI CT
    cases hi : isR s' 10 [45, 62] with
    | true =>
      rw [hi] at IX
      rw [if_pos (by rw [hi])] at hx
      unfold arrowF at hx
      rw [if_pos hi] at hx
      have IL := IL hi (by decide)
      have hy1 : takeR s' = ⟨leafH (tk s'), .nil, nx s', 0⟩ := take_ok IL.1
      rw [hy1] at hx IL
      dsimp only at hx IL
      have HIL := Lib.hid IL.2.2
      have HFQ := Lib.hid (HAF.out _ HFT.out)
      have HQL := Lib.hid (fun h => lv_less (HAL.out (nx s') h))
      have AQ := Lib.hid (fun Q W a b d => CA.out Q (nx s') W a HFT.out b d)
      have HX := Lib.hid hx
      generalize A (nx s') = q at *
      generalize tk s' = t0 at *
      generalize nx s' = s2 at *
      clear hi hx IL hy1 CA HAF HAL
      go_wp2_with (first
        | (go_at_call 26; refine IX.out.mono ?_; rintro e w1 ⟨rfl, rfl⟩)
        | (go_at_call 28; refine TX.out.mono ?_; rintro e w2 ⟨rfl, p2, q2⟩; have A2 := Lib.hid (AQ.out (Px (Pm P [R2]) (.slice va1 (len (foL l')) vc1)) w2 p2 (fun b hb => HGE.out b (Nat.le_trans q2.size hb)) (fun h => HPQ.out h.1)); have M2 := Lib.hid (MX.out.trans (Mq.of_kp q2)); have N2 := Lib.hid (HNX.out.kp q2 HPQ.out); have Y2 := Lib.hid (KOn.kp HKY.out q2 (fun h => HPQ.out h.1)); have RR := Lib.hid (kp_lies q2 RX.out (by have := HLT.out; have := HR2.out; omega) (by simp)); have F2 := Lib.hid (kp_lies q2 YX.out (by have := HLT.out; omega) (by simp)); clear p2 q2)
        | (go_at_call 25; refine A2.out.mono ?_; rintro e w3 h; rcases Classical.em (q.e = 0) with q0 | q0; rotate_left; (rw [POut.bad q0] at h; obtain ⟨ta4, tc4, oa4, oc4, rfl, s4, q4⟩ := h; refine ⟨rfl, ?_⟩; rw [← HX.out, if_neg q0, POut.bad q0]; exact ⟨ta4, tc4, oa4, oc4, rfl, s4.less (fun b _ h => h.1.1), (M2.out.trans (Mq.of_kp q4)).kp⟩); rw [POut.ok q0] at h; obtain ⟨ka3, kc3, rfl, k3, p3, q3⟩ := h; have P3 := Lib.hid p3; have K3 := Lib.hid k3; have N3 := Lib.hid (N2.out.kp q3 HPQ.out); have Y3 := Lib.hid (KOn.kp Y2.out q3 (fun h => HPQ.out h.1)); have M3 := Lib.hid (M2.out.trans (Mq.of_kp q3)); have R3 := Lib.hid (kp_lies q3 RR.out (by have := HLT.out; have := HR2.out; omega) (by simp)); have F3 := Lib.hid (kp_lies q3 F2.out (by have := HLT.out; omega) (by simp)); have Q0 := Lib.hid q0; clear k3 p3 q3 q0; unfold ndV)
        | (at_builtin; refine append_lit w3 rfl _ _ rfl 0 (Pm P [R2]) (.slice va1 (len (foL l')) vc1) l' [⟨leafH t0, .nil, .slice none 0 0⟩, ⟨q.h, q.k, .slice ka3 (len q.k) kc3⟩] rfl N3.out _ _ rfl _ _ rfl rfl (fun x hx => by rcases List.mem_cons.1 hx with e | e; exact e ▸ KOn.nil .. ; exact (List.mem_singleton.1 e) ▸ K3.out) (by have := HKL.out; have := HN2.out; simp; omega) (Nat.zero_le _) (fun b hb => ⟨HP.out b (by have := M3.out.kp.size; omega), by have := R3.out.lt; simp; omega⟩) ?_; intro v4 w4 n4 m4; have P4 := Lib.hid (P3.out.move m4 (N3.out.noown HPQ.out)); have M4 := Lib.hid (M3.out.trans (Mq.of_mv m4)); have R4 := Lib.hid (m4.lies R3.out (fun e => (N3.out.own _ e).2 (by simp))); have F4 := Lib.hid (m4.lies F3.out (fun e => HOM.out e)); have Y4 := Lib.hid (m4.kid Y3.out); have O4 := Lib.hid (show v4.ownBlock ≠ some w.heap.size from m4.ne HOM.out F3.out.lt); have N4 := Lib.hid n4; clear n4 m4))
      obtain ⟨va4, vc4, e4⟩ := N4.out.slice
      have hk := HKL.out
      have hl := HLF.out
      have hi := HIL.out
      have hq := HQL.out Q0.out
      have h1 := H1.out
      have hx := HX.out
      rw [if_pos Q0.out] at hx
      obtain ⟨g, rfl⟩ : ∃ g, f = g + 1 := ⟨f - 1, by omega⟩
      refine ⟨⟨_, q.s, g, N4.out, P4.out, R4.out, F4.out, Y4.out, M4.out, HFQ.out, ?_, by omega, ?_, ?_, ?_, O4.out⟩, ?_⟩
      · simp only [List.length_append, List.length_cons, List.length_nil]
        omega
      · rw [foL_two l' ⟨leafH t0, .nil, s2, 0⟩ q, if_neg (show ¬ (l' ++ [(⟨leafH t0, .nil, .slice none 0 0⟩ : Nv), ⟨q.h, q.k, .slice ka3 (len q.k) kc3⟩]).length = 1 from by simp only [List.length_append, List.length_cons, List.length_nil]; omega)]
        rw [← hx]
        cases hz : isR q.s 10 [45, 62] with
        | true => rw [if_pos rfl]
        | false =>
          rw [if_neg (by decide)]
          unfold arrowF
          rw [if_neg (by rw [hz]; decide)]
      · simp only [List.length_append, List.length_cons, List.length_nil]
        omega
      · intro h
        simp only [List.length_append, List.length_cons, List.length_nil] at h
        omega
      · rw [e4]
        simp only [lenOf, List.length_append, List.length_cons, List.length_nil, len_foL]
        omega
    | false =>
      rw [hi] at IX
      rw [if_neg (by rw [hi]; decide)] at hx
      have HLEN := Lib.hid (len_foL l')
      have KA := Lib.hid (HNX.out.on (by have := HKL.out; have := HN2.out; unfold maxLen; omega))
      clear hi IL TX CA HAF HAL
      go_upto_region 4 with (first
        | (go_at_call 26; refine IX.out.mono ?_; rintro e w1 ⟨rfl, rfl⟩))
      by_cases h2 : l'.length = 1
      · rw [if_pos h2] at hx
        have hs := HSY.out h2
        have hps := HPX.out
        rw [hs] at hps
        have HPY := Lib.hid hps
        have HXY := Lib.hid hx
        have d1 : (((len (foL l') : Nat) : Int) == 1) = true := beq_iff_eq.2 (by have := HLEN.out; omega)
        have d2 : (len (foL l') == 1) = true := beq_iff_eq.2 (by have := HLEN.out; omega)
        obtain ⟨c0, c1, c2, c3, c4, c5⟩ := YX.out.node
        have r4 := RX.out
        unfold zNd at r4
        obtain ⟨⟨e0, e1, e2, e3, e4, e5⟩, f0, f1, f2, f3, f4, f5⟩ := r4.nodef
        have R9 := Lib.hid r4
        clear hx h2 hs hps r4
        go_wp2_with fail
        refine bodyPost_ret (res_nd Tryz.results30 rfl (Lies.all6 R9.out y.h (.slice ka (len y.k) kc))) rfl ?_
        rw [← HXY.out, POut.ok Y0.out]
        exact six_ok (HKY.out.less (fun b h => h.1)) (HPY.out.less (fun b _ h => h.1)) MX.out.kp (by have := HLT.out; have := HR2.out; omega) (Nat.le_of_lt HR2.out)
      · rw [if_neg h2] at hx
        have HX := Lib.hid hx
        have d1 : (((len (foL l') : Nat) : Int) == 1) = false := beq_eq_false_iff_ne.2 (by have := HLEN.out; omega)
        have d2 : (len (foL l') == 1) = false := beq_eq_false_iff_ne.2 (by have := HLEN.out; omega)
        have ND := Lib.hid (fun W => node_any 37 va1 (len (foL l')) vc1 W)
        clear hx h2
        go_wp2_with (first
          | (go_at_call 27; refine (ND.out _).mono ?_; rintro e w4 ⟨rfl, b4⟩; have B4 := Lib.hid b4; have r4 := RX.out.below b4 RX.out.lt; clear b4; unfold zNd at r4; obtain ⟨⟨e0, e1, e2, e3, e4, e5⟩, f0, f1, f2, f3, f4, f5⟩ := r4.nodef; have R9 := Lib.hid r4; clear r4; unfold ndV))
        refine bodyPost_ret (res_nd Tryz.results30 rfl (Lies.all6 R9.out (nodeH 37) (.slice va1 (len (foL l')) vc1))) rfl ?_
        rw [← HX.out, POut.ok rfl]
        exact six_ok (x := ⟨nodeH 37, foL l', s', 0⟩) (KA.out.below B4.out (Nat.le_refl _)) ((HPX.out.below B4.out).less (fun b _ h => h.1)) (Kp.bel MX.out.kp B4.out) (by have := HLT.out; have := HR2.out; omega) (Nat.le_of_lt HR2.out)
set_option maxRecDepth 1000000 in
set_option maxHeartbeats 1000000 in
theorem parrow_any {N : Nat} (hN : N ≤ 1099511627776) (hN2 : 20 * N + 20 ≤ 1099511627776) (R : NextOn 49) (A : Sx → Rd) (hAF : ∀ s, Fits N s → Fits N (A s).s) (hAL : ∀ s, Lv s (A s)) (hLF : ∀ s, Fits N s → (A s).e = 0 → lf (A s).s ≤ 6 * N + 2) (deep : Int) (P : Nat → Prop) (pb : Nat) (PR : ∀ (P : Nat → Prop) (s : Sx) (W : World), Par W P pb s → Fits N s → (∀ b, W.heap.size ≤ b → P b) → ¬ P pb → Calls Tryz.prog 25 #[.pointer (some ⟨pb, 0, none⟩), .int .i64 deep] W (POut (A s) P pb none W)) (s : Sx) (w : World) (hp : Par w P pb s) (hf : Fits N s) (hP : ∀ b, w.heap.size ≤ b → P b) (hpb : ¬ P pb) :
    Calls Tryz.prog 29 #[.pointer (some ⟨pb, 0, none⟩), .int .i64 deep] w (POut (arrowsR A (A s)) P pb none w) := by
  have CA0 := Lib.hid (fun Q W a b d => PR Q s W a hf b d)
  have CF := Lib.hid (fun Q kv W a b h c d => pfrom_any hN hN2 R A hAF hAL deep Q pb PR (A s) kv W a b h (hAF _ hf) c d (hLF _ hf h))
  unfold ndV at CF
  have HPA := Lib.hid hp
  have HP := Lib.hid hP
  have HPQ : Hid (¬ (Pm P [w.heap.size]) pb) := fun h => hpb h.1
  have HLT := Lib.hid hp.lt
  have HBD : Hid ((A s).e ≠ 0 → arrowsR A (A s) = A s) := fun h => if_neg (fun q => h q.1)
  generalize arrowsR A (A s) = x at *
  generalize A s = y at *
  clear hp hf hP hpb R PR hAF hAL hLF hN2
  go_enter Tryz.func29, Tryz.ntmps29
  go_upto_region 1 with fail
  refine gen_world (fun X => Below w.heap.size w X ∧ Lies X w.heap.size zNd) ⟨below_one w _, Lies.new w _⟩ ?_
  rintro X ⟨bX, rX⟩
  have pX := HPA.out.into (l := [w.heap.size]) bX (by simp)
  have hge : ∀ b, X.heap.size ≤ b → (Pm P [w.heap.size]) b := Pm.of HP.out (by have := rX.lt; simp; omega) bX.size
  have AX := Lib.hid (CA0.out (Pm P [w.heap.size]) X pX hge HPQ.out)
  have HGE := Lib.hid hge
  have BX := Lib.hid bX
  have RX := Lib.hid rX
  clear bX rX pX hge CA0 HPA
  go_wp2_with (first
    | (go_at_call 25; refine AX.out.mono ?_; rintro e w2 h; rcases Classical.em (y.e = 0) with q0 | q0; rotate_left; (rw [POut.bad q0] at h; obtain ⟨ta4, tc4, oa4, oc4, rfl, s4, q4⟩ := h; refine ⟨rfl, ?_⟩; rw [HBD.out q0, POut.bad q0]; exact ⟨ta4, tc4, oa4, oc4, rfl, s4.less (fun b _ h => h.1), (Kp.of_below BX.out).trans q4⟩); rw [POut.ok q0] at h; obtain ⟨ka2, kc2, rfl, k2, p2, q2⟩ := h; have M2 := Lib.hid ((Kp.of_below BX.out).trans q2); have RR := Lib.hid (kp_lies q2 RX.out (by have := HLT.out; omega) (by simp)); have FX := Lib.hid (CF.out (Pm P [w.heap.size]) _ w2 k2 p2 q0 (fun b hb => HGE.out b (Nat.le_trans q2.size hb)) HPQ.out); clear k2 p2 q2 q0; unfold ndV)
    | (go_at_call 30; refine FX.out.mono ?_; rintro e w3 h; rcases Classical.em (x.e = 0) with x0 | x0; rotate_left; (rw [POut.bad x0] at h; obtain ⟨ta4, tc4, oa4, oc4, rfl, s4, q4⟩ := h; refine ⟨rfl, ?_⟩; rw [POut.bad x0]; exact ⟨ta4, tc4, oa4, oc4, rfl, s4.less (fun b _ h => h.1), M2.out.trans q4⟩); rw [POut.ok x0] at h; obtain ⟨ka3, kc3, rfl, k3, p3, q3⟩ := h; have P3 := Lib.hid p3; have K3 := Lib.hid k3; have M3 := Lib.hid (M2.out.trans q3); have r4 := kp_lies q3 RR.out (by have := HLT.out; omega) (by simp); have X0 := Lib.hid x0; clear k3 p3 q3 x0; unfold zNd at r4; obtain ⟨⟨e0, e1, e2, e3, e4, e5⟩, f0, f1, f2, f3, f4, f5⟩ := r4.nodef; have R9 := Lib.hid r4; clear r4; unfold ndV))
  refine bodyPost_ret (res_nd Tryz.results29 rfl (Lies.all6 R9.out x.h (.slice ka3 (len x.k) kc3))) rfl ?_
  rw [POut.ok X0.out]
  exact six_ok K3.out P3.out M3.out (by have := HLT.out; omega) (Nat.le_refl _)
end Go.Proofs.YtmgclgojmckfhaaGreatDoor.Typ
