/-
  The program's own reading of trees: a closure that calls itself. Conditions: texts of at most 2^24 bytes.
-/
import Derived.Test.YtmandanmndmnhaaDoorTreLef
import Derived.Test.YtmandanmndmnhaaDoorTreDep
namespace Go.Proofs.YtmandanmndmnhaaDoor.Tre
open Tks Go.RowKit
set_option linter.unusedSimpArgs false
set_option linter.unusedVariables false

def codeE (x : Int) : Int := if x = -2 then 2 else 100
theorem codeE_ne (x : Int) : codeE x ≠ 0 := by
  unfold codeE
  split <;> decide
def GotP (t : ByteArray) (within : Nat) (E : Int) (h : Hd) (k : Fo) (t' : ByteArray) : Prop :=
  match readT (within + 1) (toL t) with
  | .ok (h', k', q) => h = h' ∧ k = k' ∧ E = 0 ∧ toL t' = q
  | .error x => E = codeE x
theorem GotP.bad {t : ByteArray} {within : Nat} {x : Int} {h : Hd} {k : Fo} {t' : ByteArray} (e : readT (within + 1) (toL t) = .error x) : GotP t within (codeE x) h k t' := by
  unfold GotP
  rw [e]
theorem GotP.good {t : ByteArray} {within : Nat} {h : Hd} {k : Fo} {t' : ByteArray} {q : List UInt8} (e : readT (within + 1) (toL t) = .ok (h, k, q)) (hq : toL t' = q) : GotP t within 0 h k t' := by
  unfold GotP
  rw [e]
  exact ⟨rfl, rfl, rfl, hq⟩
def RpOut (t : ByteArray) (within : Nat) (R : Nat) (w : World) (e : Ending) (w' : World) : Prop :=
  ∃ h k a n c E t', e = .returned (.tuple #[ndV h (.slice a n c), .int .i64 E]) ∧ KOn w' (fun b => w.heap.size ≤ b) (.slice a n c) k ∧ Rd w' R t' ∧ Only R w w' ∧ t'.size ≤ t.size ∧ GotP t within E h k t'
def fnR (V F : Nat) : Value := .func (.func 38) #[] #[.pointer (some ⟨V, 0, none⟩), .pointer (some ⟨F, 0, none⟩)]
theorem one_only {R b : Nat} {w w' : World} {v : Value} {t : TypeId} (h : Only R w w') (ho : One w b v t) (hb : b ≠ R) : One w' b v t := h.lies ho hb
theorem meas_le (E1 : Int) {x y : Nat} (h : x < y) : (if intOf (Value.int IntKind.i64 E1) = 0 then x else 0) < if intOf (Value.int IntKind.i64 0) = 0 then y else 0 := by
  have e0 : intOf (Value.int IntKind.i64 0) = 0 := rfl
  rw [if_pos e0]
  by_cases hz : intOf (Value.int IntKind.i64 E1) = 0
  · rw [if_pos hz]
    exact h
  · rw [if_neg hz]
    omega
def Liv (t : ByteArray) (within : Nat) (h3 : Hd) (E : Int) (acc : List Nv) (tr : ByteArray) : Prop :=
  (E = 0 ∧ ∃ m0 f, h3 = hd0 m0 f ⟨#[]⟩ ∧ readT (within + 1) (toL t) = nodeR2 m0 f (behind (foL acc) (readKs (within + 1 + 1) (toL tr)))) ∨ (∃ x, E = codeE x ∧ readT (within + 1) (toL t) = .error x)
section
variable {t : ByteArray} {within : Nat} {h3 : Hd} {E : Int} {acc : List Nv} {tr : ByteArray}
theorem Liv.dead {x : Int} (e : readT (within + 1) (toL t) = .error x) : Liv t within h3 (codeE x) acc tr := .inr ⟨x, rfl, e⟩
theorem Liv.live (h : Liv t within h3 E acc tr) (hE : E = 0) : ∃ m0 f, h3 = hd0 m0 f ⟨#[]⟩ ∧ readT (within + 1) (toL t) = nodeR2 m0 f (behind (foL acc) (readKs (within + 1 + 1) (toL tr))) := by
  rcases h with h | ⟨x, hx, _⟩
  · exact h.2
  · exact absurd (hx.symm.trans hE) (codeE_ne x)
theorem Liv.gone (h : Liv t within h3 E acc tr) (hE : ¬ E = 0) (k : Fo) (t' : ByteArray) : GotP t within E h3 k t' := by
  rcases h with h | ⟨x, hx, e⟩
  · exact absurd h.1 hE
  · rw [hx]
    exact .bad e
theorem Liv.close (h : Liv t within h3 E acc tr) (hE : E = 0) (h41 : (toL tr).head? = some (byte 41)) : readT (within + 1) (toL t) = .ok (h3, foL acc, (toL tr).drop 1) := by
  obtain ⟨m0, f, rfl, e⟩ := h.live hE
  rw [e, behind_end (by rw [h41]; intro q; injection q with q; exact byte_ne (by omega) (by omega) (by omega) q)]
  unfold nodeR2
  dsimp only
  rw [if_pos h41]
theorem Liv.wrong (h : Liv t within h3 E acc tr) (hE : E = 0) (h41 : ¬ (toL tr).head? = some (byte 41)) (h32 : ¬ (toL tr).head? = some (byte 32)) : readT (within + 1) (toL t) = .error (-1) := by
  obtain ⟨m0, f, rfl, e⟩ := h.live hE
  rw [e, behind_end h32]
  unfold nodeR2
  dsimp only
  rw [if_neg h41]
theorem Liv.kidbad (h : Liv t within h3 E acc tr) (hE : E = 0) (h32 : (toL tr).head? = some (byte 32)) {x : Int} (hk : readT (within + 1 + 1) ((toL tr).drop 1) = .error x) : readT (within + 1) (toL t) = .error x := by
  obtain ⟨m0, f, rfl, e⟩ := h.live hE
  rw [e, behind_bad h32 hk]
  rfl
theorem Liv.kid (h : Liv t within h3 E acc tr) (hE : E = 0) (h32 : (toL tr).head? = some (byte 32)) {x : Nv} {tq : ByteArray} (hk : readT (within + 1 + 1) ((toL tr).drop 1) = .ok (x.h, x.k, toL tq)) : Liv t within h3 0 (acc ++ [x]) tq := by
  obtain ⟨m0, f, rfl, e⟩ := h.live hE
  refine .inl ⟨rfl, m0, f, rfl, ?_⟩
  rw [e, behind_kid h32 hk]
end
set_option maxRecDepth 1000000 in
set_option maxHeartbeats 8000000 in
theorem readp_any (t : ByteArray) (hs : t.size ≤ 16777216) : ∀ (within R V F : Nat) (w : World), within ≤ 999 → ¬ V = R → ¬ F = R → Rd w R t → One w V (.pointer (some ⟨R, 0, none⟩)) 53 → One w F (fnR V F) 56 →
    Calls Tryd.prog 38 #[.int .i64 (within : Int), .pointer (some ⟨V, 0, none⟩), .pointer (some ⟨F, 0, none⟩)] w (RpOut t within R w) := by
  generalize hm : t.size = m
  induction m using Nat.strongRecOn generalizing t with
  | _ m ihm =>
  have IH : Hid (∀ t' : ByteArray, t'.size < t.size → ∀ (within R V F : Nat) (w : World), within ≤ 999 → ¬ V = R → ¬ F = R → Rd w R t' → One w V (.pointer (some ⟨R, 0, none⟩)) 53 → One w F (fnR V F) 56 →
      Calls Tryd.prog 38 #[.int .i64 (within : Int), .pointer (some ⟨V, 0, none⟩), .pointer (some ⟨F, 0, none⟩)] w (RpOut t' within R w)) :=
    fun t' h1 => ihm t'.size (by omega) t' (by omega) rfl
  clear ihm
  intro within R V F w hwi hVR hFR hr hv hf
  have HSZ : Hid (t.size ≤ 16777216) := by unfold Hid; omega
  have HWI := Lib.hid hwi
  have HRR := Lib.hid hr
  have HV := Lib.hid hv
  have HF := Lib.hid hf
  have n1 : ¬ R = w.heap.size := by have := hr.lt; omega
  have n2 : ¬ w.heap.size = R := fun e => n1 e.symm
  have HLT := Lib.hid (show R < w.heap.size ∧ V < w.heap.size ∧ F < w.heap.size from ⟨hr.lt, Lies.lt hv, Lies.lt hf⟩)
  clear hm hwi hr hv hf hs
  go_enter Tryd.func38, Tryd.ntmps38
  go_upto_region 1 with fail
  refine gen_world (fun X => Below w.heap.size w X ∧ Lies X w.heap.size z6 ∧ X.heap.size = w.heap.size + 1) ⟨below_one w _, Lies.new w _, World.size_alloc _ _⟩ ?_
  rintro X ⟨bX, lX, zX⟩
  have LX : Hid (Lies X w.heap.size (ndO ⟨0, 0, ⟨#[]⟩, 0, 0⟩ (.slice none 0 0))) := lX
  have OX : Hid (Only R w X) := Only.of_below bX (Nat.le_refl _)
  have RX := Lib.hid (HRR.out.below bX HRR.out.lt)
  have SX : Hid (w.heap.size < X.heap.size) := by unfold Hid; omega
  have v0 := (one_only OX.out HV.out hVR).c0
  have CT := Lib.hid (takeZ 40 40 rfl (by omega) t HSZ.out R X RX.out)
  clear bX lX zX
  by_cases h40 : (toL t).head? = some (byte 40)
  · have e1 : headIs t (byte 40) = true := decide_eq_true h40
    obtain ⟨t1, ht1⟩ : ∃ t1, after t (byte 40) = t1 := ⟨_, rfl⟩
    have hl1 : toL t1 = (toL t).drop 1 := by rw [← ht1, toL_after, if_pos h40]
    have hs1 : t1.size < t.size := by
      have h1 := congrArg List.length hl1
      rw [toL_len, List.length_drop, toL_len] at h1
      have h2 : 0 < (toL t).length := by
        cases hm : toL t with
        | nil => rw [hm] at h40; cases h40
        | cons x r => simp
      rw [toL_len] at h2
      omega
    rw [e1, ht1] at CT
    have hT := readT_node (deep := within + 1) (by have := HWI.out; omega) h40
    rw [← hl1] at hT
    have HT := Lib.hid hT
    have HS1 := Lib.hid hs1
    have CH := Lib.hid (fun (W : World) (hW : Rd W R t1) => head_any t1 (by have := HSZ.out; omega) R W hW)
    unfold HdOut ndV at CH
    clear e1 h40 hl1 hs1 ht1 hT
    go_upto_region 3 with (first
      | (go_at_call 39; refine CT.out.mono ?_; rintro e w2 ⟨rfl, r2, o2⟩; have R2 := Lib.hid r2; have L2 := Lib.hid (o2.lies LX.out n2); have O2 := Lib.hid (OX.out.trans o2); have S2 : Hid (w.heap.size < w2.heap.size) := (Nat.lt_of_lt_of_le SX.out o2.size); clear r2 o2))
    clear v0
    have v0 := (one_only O2.out HV.out hVR).c0
    have CH2 := Lib.hid (CH.out w2 R2.out)
    clear CH CT LX OX RX SX
    go_upto_region 4 with (first
      | (go_at_call 41; refine CH2.out.mono ?_; rintro e w3 ⟨h3, E3, t3, rfl, r3, o3, s3, g3⟩; have R3 := Lib.hid r3; have L3 := Lib.hid (o3.lies L2.out n2); have O3 := Lib.hid (O2.out.trans o3); have S3 : Hid (w.heap.size < w3.heap.size) := (Nat.lt_of_lt_of_le S2.out o3.size); have T3 := Lib.hid (Nat.lt_of_le_of_lt s3 HS1.out); have G3 := Lib.hid g3; clear r3 o3 s3 g3))
    generalize hNB : w3.heap.size = NB at *
    have HI : Hid (Liv t within h3 E3 [] t3) := by
      have hg := G3.out
      unfold Hid
      by_cases hbad : numL (toL t1) < 1 ∨ 54 ≤ numL (toL t1) ∨ numL (toL t1) = 1
      · rw [if_pos hbad] at hg
        have := HT.out
        rw [if_pos hbad] at this
        rw [hg]
        exact .dead (x := -1) this
      · rw [if_neg hbad] at hg
        have := HT.out
        rw [if_neg hbad] at this
        refine .inl ⟨hg.1, _, _, hg.2.1, ?_⟩
        rw [this, hg.2.2]
        show _ = nodeR2 _ _ (behind .nil _)
        rw [behind_nil]
    refine gen_world (fun Y => Rd Y R t3 ∧ Only R w Y ∧ Lies Y w.heap.size (ndO ⟨0, 0, ⟨#[]⟩, 0, 0⟩ (.slice none 0 0)) ∧ Lies Y NB (ndO h3 (.slice none 0 0)) ∧ NB + 1 = Y.heap.size) ⟨R3.out.below (below_one w3 _) R3.out.lt, O3.out.trans (Only.of_below (below_one w3 _) (Nat.le_refl _)), L3.out.alloc _, by rw [← hNB]; exact Lies.new w3 _, by rw [World.size_alloc, hNB]⟩ ?_
    rintro Y ⟨rY, oY, lY, mY, zY⟩
    have n3 : ¬ NB = R := by have := R3.out.lt; omega
    have n4 : ¬ R = NB := fun e => n3 e.symm
    have n5 : ¬ NB = w.heap.size := by have := S3.out; omega
    have n6 : ¬ w.heap.size = NB := fun e => n5 e.symm
    have HNB : Hid (w.heap.size < NB ∧ R < NB) := by have := S3.out; have := HLT.out; unfold Hid; omega
    have RY := Lib.hid rY
    have OY := Lib.hid oY
    have LY := Lib.hid lY
    have MY := Lib.hid mY
    have ZY := Lib.hid zY
    have NY := Lib.hid (NdOwn.nil Y (NB + 1))
    clear rY oY lY mY zY hNB R3 O3 L3 S3 G3 v0 CH2 R2 L2 O2 S2
    go_loopw [7] (fun ev wr => ∃ (E : Int) (tr : ByteArray) (acc : List Nv) (a : Option Addr) (c : Nat), ev = .int .i64 E ∧ Hid (Rd wr R tr) ∧ Hid (Only R w wr) ∧ Hid (Lies wr w.heap.size (ndO ⟨0, 0, ⟨#[]⟩, 0, 0⟩ (.slice none 0 0))) ∧ Hid (Lies wr NB (ndO h3 (.slice a acc.length c))) ∧ Hid (NdOwn wr (NB + 1) (.slice a acc.length c) acc) ∧ Hid (tr.size < t.size ∧ acc.length + tr.size ≤ t.size ∧ NB + 1 ≤ wr.heap.size) ∧ Hid (Liv t within h3 E acc tr)) (fun ev wr => if intOf ev = 0 then 1 + rdSize wr R else 0)
    case atStart => exact ⟨E3, t3, [], none, 0, rfl, RY.out, OY.out, LY.out, MY.out, NY.out, ⟨T3.out, by have := T3.out; simp only [List.length_nil]; omega, by have := ZY.out; omega⟩, HI.out⟩
    case round =>
      obtain ⟨E, tr, acc, a, c, rfl, RR, OR, LR, MR, NR, HA, HL⟩ := hrel
      clear RY OY LY MY NY ZY HI
      by_cases hE : E = 0
      · subst hE
        have v0 := (one_only OR.out HV.out hVR).c0
        have CT := Lib.hid (takeZ 41 41 rfl (by omega) tr (by have := HA.out.1; have := HSZ.out; omega) R wr RR.out)
        by_cases h41 : (toL tr).head? = some (byte 41)
        · have e1 : headIs tr (byte 41) = true := decide_eq_true h41
          obtain ⟨t5, ht5⟩ : ∃ t5, after tr (byte 41) = t5 := ⟨_, rfl⟩
          have hl5 : toL t5 = (toL tr).drop 1 := by rw [← ht5, toL_after, if_pos h41]
          have HG := Lib.hid (GotP.good (HL.out.close rfl h41) hl5)
          have HS5 : Hid (t5.size ≤ t.size) := by rw [← ht5]; exact Nat.le_trans (after_size tr _) (Nat.le_of_lt HA.out.1)
          rw [e1, ht5] at CT
          clear e1 h41 ht5 hl5 HL
          go_upto_region 12 with (first
            | (go_at_call 39; refine CT.out.mono ?_; rintro e w5 ⟨rfl, r5, o5⟩; have RF := Lib.hid r5; have OF := Lib.hid (OR.out.trans o5); have LF := Lib.hid (o5.lies LR.out n2); have MF := Lib.hid (o5.lies MR.out n3); have NF := Lib.hid (o5.own NR.out (by have := HNB.out; omega)); clear r5 o5))
          obtain ⟨⟨c0, c1, c2, c3, c4, c5⟩, f0, f1, f2, f3, f4, f5⟩ := LF.out.nodef
          obtain ⟨⟨e0, e1, e2, e3, e4, e5⟩, g0, g1, g2, g3, g4, g5⟩ := MF.out.nodef
          go_upto_region 12 with fail
          go_cut [4, 5] from 9 (fun v4 v5 wx => v4 = .pointer (some ⟨w.heap.size, 0, none⟩) ∧ v5 = .int .i64 0 ∧ Rd wx R t5 ∧ Only R w wx ∧ Lies wx w.heap.size (ndO h3 (.slice a acc.length c)) ∧ KOn wx (fun b => w.heap.size ≤ b) (.slice a acc.length c) (foL acc))
          case first =>
            go_wp2_with fail
            go_meet
            case rel => exact ⟨rfl, rfl, RF.out.set6 n1 _ _ _ _ _ _, OF.out.fresh (Nat.le_refl _) _ _ _ _ _ _, Lies.all6 LF.out h3 _, ((NF.out.on (by have := HA.out.2.1; have := HSZ.out; unfold maxLen; omega)).set6 (fun b hb => by have := HNB.out; omega) _ _ _ _ _ _).less (fun b hb => by have := HNB.out; omega)⟩
          case rest =>
            obtain ⟨rfl, rfl, r7, o7, l7, k7⟩ := hcut
            repeat go_step
            refine bodyPost_ret (res_node Tryd.results38 rfl l7) rfl ?_
            exact ⟨h3, foL acc, a, acc.length, c, 0, t5, rfl, k7, r7, o7, HS5.out, HG.out⟩
        · have e1 : headIs tr (byte 41) = false := decide_eq_false h41
          have e2 : after tr (byte 41) = tr := by unfold after; rw [if_neg h41]
          rw [e1, e2] at CT
          clear e1 e2
          by_cases h32 : (toL tr).head? = some (byte 32)
          · obtain ⟨t6, ht6⟩ : ∃ t6, after tr (byte 32) = t6 := ⟨_, rfl⟩
            have d1 : headIs tr (byte 32) = true := decide_eq_true h32
            have hl6 : toL t6 = (toL tr).drop 1 := by rw [← ht6, toL_after, if_pos h32]
            have hs6 : t6.size + 1 = tr.size := by
              have h1 := congrArg List.length hl6
              rw [toL_len, List.length_drop, toL_len] at h1
              have h2 : 0 < (toL tr).length := by
                cases hm : toL tr with
                | nil => rw [hm] at h32; cases h32
                | cons x r => simp
              rw [toL_len] at h2
              omega
            have CS := Lib.hid (fun (W : World) (hW : Rd W R tr) => takeZ 32 32 rfl (by omega) tr (by have := HA.out.1; have := HSZ.out; omega) R W hW)
            rw [d1, ht6] at CS
            obtain ⟨y1, y2⟩ := wraps1 (p := within) (n := 999) (by omega) HWI.out
            have H6 := Lib.hid hs6
            by_cases hd : within + 1 = 1000
            · have g1 : (((within + 1 : Nat) : Int) == 1000) = true := by rw [beq_iff_eq]; omega
              have g1' : (((within : Int) + 1) == 1000) = true := by rw [beq_iff_eq]; omega
              have g1n : (within + 1 == 1000) = true := by rw [beq_iff_eq]; exact hd
              have HG := Lib.hid (HL.out.kidbad rfl h32 (x := -2) (by
                unfold readT nodeR
                rw [if_pos (by omega)]))
              clear d1 hl6 hs6 ht6 h32 h41 HL hd
              go_upto_region 8 with (first
                | (go_at_call 39; refine CT.out.mono ?_; rintro e w5 ⟨rfl, r5, o5⟩; have R5 := Lib.hid r5; have O5 := Lib.hid (OR.out.trans o5); have L5 := Lib.hid (o5.lies LR.out n2); have M5 := Lib.hid (o5.lies MR.out n3); have N5 := Lib.hid (o5.own NR.out (by have := HNB.out; omega)); have S5 : Hid (NB + 1 ≤ w5.heap.size) := Nat.le_trans HA.out.2.2 o5.size; clear r5 o5))
              clear v0
              have v0 := (one_only O5.out HV.out hVR).c0
              go_wp2_with (first
                | (go_at_call 39; refine (CS.out w5 R5.out).mono ?_; rintro e w6 ⟨rfl, r6, o6⟩; have R6 := Lib.hid r6; have O6 := Lib.hid (O5.out.trans o6); have L6 := Lib.hid (o6.lies L5.out n2); have M6 := Lib.hid (o6.lies M5.out n3); have N6 := Lib.hid (o6.own N5.out (by have := HNB.out; omega)); have S6 : Hid (NB + 1 ≤ w6.heap.size) := Nat.le_trans S5.out o6.size; clear r6 o6))
              refine ⟨⟨2, t6, acc, a, c, rfl, R6.out, O6.out, L6.out, M6.out, N6.out, ⟨by have := H6.out; have := HA.out.1; omega, by have := H6.out; have := HA.out.2.1; omega, S6.out⟩, .dead (x := -2) HG.out⟩, ?_⟩
              clear y1 y2
              simp [intOf]
              omega
            · have g1 : (((within + 1 : Nat) : Int) == 1000) = false := by rw [beq_eq_false_iff_ne]; omega
              have g1' : (((within : Int) + 1) == 1000) = false := by rw [beq_eq_false_iff_ne]; omega
              have g1n : (within + 1 == 1000) = false := by rw [beq_eq_false_iff_ne]; exact hd
              have HWJ : Hid (within + 1 ≤ 999) := by have := HWI.out; unfold Hid; omega
              have LV : Hid (∀ h1 k1 E1 t7 va, GotP t6 (within + 1) E1 h1 k1 t7 → Liv t within h3 E1 (acc ++ [⟨h1, k1, va⟩]) t7) := by
                intro h1 k1 E1 t7 va hg
                unfold GotP at hg
                cases hk : readT (within + 1 + 1) (toL t6) with
                | error x =>
                  rw [hk] at hg
                  have hg : E1 = codeE x := hg
                  rw [hg]
                  exact .dead (HL.out.kidbad rfl h32 (by rw [← hl6]; exact hk))
                | ok p =>
                  obtain ⟨h', k', q⟩ := p
                  rw [hk] at hg
                  obtain ⟨rfl, rfl, rfl, rfl⟩ := hg
                  exact HL.out.kid rfl h32 (x := ⟨h1, k1, va⟩) (by rw [← hl6]; exact hk)
              clear d1 hl6 hs6 ht6 h32 h41 HL hd
              go_upto_region 8 with (first
                | (go_at_call 39; refine CT.out.mono ?_; rintro e w5 ⟨rfl, r5, o5⟩; have R5 := Lib.hid r5; have O5 := Lib.hid o5; clear r5 o5))
              clear v0
              have v0 := (one_only (OR.out.trans O5.out) HV.out hVR).c0
              go_upto_region 6 with (first
                | (go_at_call 39; refine (CS.out w5 R5.out).mono ?_; rintro e w6 ⟨rfl, r6, o6⟩; have R6 := Lib.hid r6; have O6 := Lib.hid (O5.out.trans o6); clear r6 o6))
              generalize hKB : w6.heap.size = KB at *
              have hkb0 := O6.out.size
              rw [hKB] at hkb0
              have HKB := Lib.hid hkb0
              refine gen_world (fun Z0 => Only R wr Z0 ∧ Rd Z0 R t6 ∧ Lies Z0 KB (ndO ⟨0, 0, ⟨#[]⟩, 0, 0⟩ (.slice none 0 0)) ∧ Z0.heap.size = KB + 1) ⟨O6.out.trans (Only.of_below (below_one w6 _) (Nat.le_refl _)), R6.out.below (below_one w6 _) R6.out.lt, by rw [← hKB]; exact Lies.new w6 _, by rw [World.size_alloc, hKB]⟩ ?_
              rintro Z0 ⟨o0, r0, l0, s0⟩
              have v1 := one_only (OR.out.trans o0) HV.out hVR
              have u1 := one_only (OR.out.trans o0) HF.out hFR
              have CK := Lib.hid (IH.out t6 (by have := H6.out; have := HA.out.1; omega) (within + 1) R V F Z0 HWJ.out hVR hFR r0 v1 u1)
              unfold RpOut ndV at CK
              have u0 := u1.c0
              unfold fnR at u0
              have O0 := Lib.hid o0
              have L0 := Lib.hid l0
              have S0 := Lib.hid s0
              have k1R : ¬ KB = R := by have := RR.out.lt; have := HKB.out; omega
              have k2R : ¬ R = KB := fun e => k1R e.symm
              clear v0 o0 r0 l0 s0 v1 u1 hKB hkb0 R6 O6 R5 O5 CT CS
              go_upto_region 7 with (first
                | (go_at_call 38; refine CK.out.mono ?_; rintro e w7 ⟨h1, k1, sa, sn, sc, E1, t7, rfl, kon, r7, o7, s7, g7⟩; have K7 := Lib.hid kon; have R7 := Lib.hid r7; have O7 := Lib.hid (O0.out.trans o7); have T7 := Lib.hid s7; have G7 := Lib.hid g7; have L7 := Lib.hid (o7.lies L0.out k1R); clear kon r7 o7 s7 g7; obtain ⟨⟨c0, c1, c2, c3, c4, c5⟩, f0, f1, f2, f3, f4, f5⟩ := L7.out.nodef))
              refine gen_world (fun Z => Only R wr Z ∧ Rd Z R t7 ∧ Lies Z KB (ndO h1 (.slice sa sn sc)) ∧ KOn Z (fun b => wr.heap.size ≤ b) (.slice sa sn sc) k1) ⟨O7.out.fresh HKB.out _ _ _ _ _ _, R7.out.set6 k2R _ _ _ _ _ _, Lies.all6 L7.out h1 _, (K7.out.set6 (fun b hb => by have := S0.out; omega) _ _ _ _ _ _).less (fun b hb => by have := S0.out; have := HKB.out; omega)⟩ ?_
              rintro Z ⟨oZ, rZ, lZ, kZ⟩
              have OZ := Lib.hid (OR.out.trans oZ)
              have RZ := Lib.hid rZ
              have LRZ := Lib.hid (oZ.lies LR.out n2)
              have MRZ := Lib.hid (oZ.lies MR.out n3)
              have NZ := Lib.hid (oZ.own NR.out (by have := HNB.out; omega))
              have SZ : Hid (NB + 1 ≤ Z.heap.size) := Nat.le_trans HA.out.2.2 oZ.size
              have KR := Lib.hid (kid_ready NR.out HA.out.2.2 kZ (below_one Z (.cells #[.int .i64 h1.kind, .int .i64 h1.form, .string h1.text, .int .i64 h1.line, .int .i64 h1.col, .slice sa sn sc] 24)))
              clear c0 c1 c2 c3 c4 c5 f0 f1 f2 f3 f4 f5
              obtain ⟨q0, q1, q2, q3, q4, q5⟩ := lZ.node
              obtain ⟨⟨e0, e1, e2, e3, e4, e5⟩, g0, g1, g2, g3, g4, g5⟩ := MRZ.out.nodef
              clear oZ rZ lZ kZ R7 O7 L7 K7
              go_wp2_with (first
                | (at_builtin; refine append_nd _ rfl _ _ rfl (NB + 1) (.slice a acc.length c) acc rfl (NZ.out.below (below_one Z _) (Nat.le_refl _)) ⟨Z.heap.size, 0, none⟩ ⟨h1, k1, .slice sa sn sc⟩ 1 rfl (World.news_of_block (heap_alloc_new Z _)) KR.out (by have := HA.out.2.1; have := HSZ.out; omega) (by have := SZ.out; rw [World.size_alloc]; omega) ?_; intro v8 w8 h8 g8 x8; have O8 := Lib.hid h8; have R8 : Hid (Rd w8 R t7) := grown_lies (NZ.out.below (below_one Z _) (Nat.le_refl _)) g8 (Lies.alloc RZ.out _) (by have := HNB.out; omega); have L8 := Lib.hid (grown_lies (NZ.out.below (below_one Z _) (Nat.le_refl _)) g8 (LRZ.out.alloc _) (by have := HNB.out; omega)); have M8 := Lib.hid (grown_lies (NZ.out.below (below_one Z _) (Nat.le_refl _)) g8 (MRZ.out.alloc _) (by omega)); have P8 := Lib.hid (Only.belowB (OZ.out.trans (Only.of_below (below_one Z _) (Nat.le_refl _))) (grown_below (C := w.heap.size) (Below.refl _ _) (by have := HNB.out; omega) (by have := SZ.out; rw [World.size_alloc]; omega) (NZ.out.below (below_one Z _) (Nat.le_refl _)) g8) (Nat.le_refl _)); have S8 : Hid (NB + 1 ≤ w8.heap.size) := (by have h1 := g8.size; have h2 := SZ.out; rw [World.size_alloc] at h1; unfold Hid; omega); clear h8 g8 x8; obtain ⟨a3, c3, rfl⟩ := O8.out.slice; clear e0 e1 e2 e3 e4 e5 g0 g1 g2 g3 g4 g5; obtain ⟨⟨e0, e1, e2, e3, e4, e5⟩, g0, g1, g2, g3, g4, g5⟩ := M8.out.nodef))
              clear y1 y2
              have el : (acc ++ [(⟨h1, k1, .slice sa sn sc⟩ : Nv)]).length = acc.length + 1 := by simp
              refine ⟨⟨E1, t7, acc ++ [⟨h1, k1, .slice sa sn sc⟩], a3, c3, rfl, R8.out.other (p := ⟨NB, 5, none⟩) n4 _, P8.out.set' (p := ⟨NB, 5, none⟩) (by have := HNB.out; show w.heap.size ≤ NB; omega) _, L8.out.other (p := ⟨NB, 5, none⟩) n6 _, ?_, ?_, ⟨?_, ?_, ?_⟩, (by unfold Hid; exact LV.out _ _ _ _ _ G7.out)⟩, ?_⟩
              · rw [el]
                exact M8.out.set5 _
              · have := O8.out.set (p := ⟨NB, 5, none⟩) (show NB < NB + 1 by omega) (.slice a3 (acc.length + 1) c3)
                rw [el] at this ⊢
                exact this
              · have := T7.out
                have := H6.out
                have := HA.out.1
                omega
              · rw [el]
                have := T7.out
                have := H6.out
                have := HA.out.2.1
                omega
              · rw [World.size_setCell]
                exact S8.out
              · rw [(R8.out.other (p := ⟨NB, 5, none⟩) n4 _).rdSize, RR.out.rdSize]
                have := T7.out
                have := H6.out
                exact meas_le E1 (by omega)
          · have HG := Lib.hid (HL.out.wrong rfl h41 h32)
            have d1 : headIs tr (byte 32) = false := decide_eq_false h32
            have d2 : after tr (byte 32) = tr := by unfold after; rw [if_neg h32]
            have CS := Lib.hid (fun (W : World) (hW : Rd W R tr) => takeZ 32 32 rfl (by omega) tr (by have := HA.out.1; have := HSZ.out; omega) R W hW)
            rw [d1, d2] at CS
            clear d1 d2 h41 h32 HL
            go_upto_region 8 with (first
              | (go_at_call 39; refine CT.out.mono ?_; rintro e w5 ⟨rfl, r5, o5⟩; have R5 := Lib.hid r5; have O5 := Lib.hid (OR.out.trans o5); have L5 := Lib.hid (o5.lies LR.out n2); have M5 := Lib.hid (o5.lies MR.out n3); have N5 := Lib.hid (o5.own NR.out (by have := HNB.out; omega)); have S5 : Hid (NB + 1 ≤ w5.heap.size) := Nat.le_trans HA.out.2.2 o5.size; clear r5 o5))
            clear v0
            have v0 := (one_only O5.out HV.out hVR).c0
            go_wp2_with (first
              | (go_at_call 39; refine (CS.out w5 R5.out).mono ?_; rintro e w6 ⟨rfl, r6, o6⟩; have R6 := Lib.hid r6; have O6 := Lib.hid (O5.out.trans o6); have L6 := Lib.hid (o6.lies L5.out n2); have M6 := Lib.hid (o6.lies M5.out n3); have N6 := Lib.hid (o6.own N5.out (by have := HNB.out; omega)); have S6 : Hid (NB + 1 ≤ w6.heap.size) := Nat.le_trans S5.out o6.size; clear r6 o6))
            refine ⟨⟨100, tr, acc, a, c, rfl, R6.out, O6.out, L6.out, M6.out, N6.out, ⟨HA.out.1, HA.out.2.1, S6.out⟩, .dead (x := -1) HG.out⟩, ?_⟩
            simp [intOf]
            omega
      · have z1 : (E == 0) = false := beq_eq_false_iff_ne.2 hE
        have HG := Lib.hid (fun k t' => HL.out.gone hE k t')
        have RF := RR
        have OF := OR
        have LF := LR
        have NF := NR
        obtain ⟨⟨c0, c1, c2, c3, c4, c5⟩, f0, f1, f2, f3, f4, f5⟩ := LR.out.nodef
        obtain ⟨⟨e0, e1, e2, e3, e4, e5⟩, g0, g1, g2, g3, g4, g5⟩ := MR.out.nodef
        clear hE HL
        go_upto_region 12 with fail
        go_cut [4, 5] from 9 (fun v4 v5 wx => v4 = .pointer (some ⟨w.heap.size, 0, none⟩) ∧ v5 = .int .i64 E ∧ Rd wx R tr ∧ Only R w wx ∧ Lies wx w.heap.size (ndO h3 (.slice a acc.length c)) ∧ KOn wx (fun b => w.heap.size ≤ b) (.slice a acc.length c) (foL acc))
        case first =>
          go_wp2_with fail
          go_meet
          case rel => exact ⟨rfl, rfl, RF.out.set6 n1 _ _ _ _ _ _, OF.out.fresh (Nat.le_refl _) _ _ _ _ _ _, Lies.all6 LF.out h3 _, ((NF.out.on (by have := HA.out.2.1; have := HSZ.out; unfold maxLen; omega)).set6 (fun b hb => by have := HNB.out; omega) _ _ _ _ _ _).less (fun b hb => by have := HNB.out; omega)⟩
        case rest =>
          obtain ⟨rfl, rfl, r7, o7, l7, k7⟩ := hcut
          repeat go_step
          refine bodyPost_ret (res_node Tryd.results38 rfl l7) rfl ?_
          exact ⟨h3, foL acc, a, acc.length, c, E, tr, rfl, k7, r7, o7, (Nat.le_of_lt HA.out.1), HG.out _ _⟩
  · have e1 : headIs t (byte 40) = false := decide_eq_false h40
    have e2 : after t (byte 40) = t := by unfold after; rw [if_neg h40]
    rw [e1, e2] at CT
    have HT := Lib.hid (readT_leaf (deep := within + 1) (by have := HWI.out; omega) h40)
    have CL := Lib.hid (fun (W : World) (hW : Rd W R t) => leafp_any t HSZ.out R W hW)
    unfold LfOut ndV at CL
    clear e1 e2 h40
    go_upto_region 2 with (first
      | (go_at_call 39; refine CT.out.mono ?_; rintro e w2 ⟨rfl, r2, o2⟩; have R2 := Lib.hid r2; have L2 := Lib.hid (o2.lies LX.out n2); have O2 := Lib.hid (OX.out.trans o2); have S2 : Hid (w.heap.size < w2.heap.size) := (Nat.lt_of_lt_of_le SX.out o2.size); clear r2 o2))
    clear v0
    have v0 := (one_only O2.out HV.out hVR).c0
    have CL2 := Lib.hid (CL.out w2 R2.out)
    clear CL CT LX OX RX SX
    go_wp2_with (first
      | (go_at_call 40; refine CL2.out.mono ?_; rintro e w3 ⟨h3, E3, t3, rfl, r3, o3, s3, g3⟩; have R3 := Lib.hid r3; have L3 := Lib.hid (o3.lies L2.out n2); have O3 := Lib.hid (O2.out.trans o3); have T3 := Lib.hid s3; have G3 := Lib.hid g3; clear r3 o3 s3 g3; obtain ⟨⟨c0, c1, c2, c3, c4, c5⟩, f0, f1, f2, f3, f4, f5⟩ := L3.out.nodef))
    refine bodyPost_ret (res_node Tryd.results38 rfl (Lies.all6 L3.out h3 (.slice none 0 0))) rfl ?_
    refine ⟨h3, .nil, none, 0, 0, E3, t3, rfl, KOn.nil .., R3.out.set6 n1 _ _ _ _ _ _, O3.out.fresh (Nat.le_refl _) _ _ _ _ _ _, T3.out, ?_⟩
    unfold GotP
    rw [HT.out]
    have := G3.out
    cases hlr : leafR (numL (toL t)) ((toL t).drop (numE (toL t))) with
    | error x =>
      rw [hlr] at this
      have hx : x = -1 := by
        unfold leafR at hlr
        split at hlr
        · cases hlr; rfl
        · split at hlr
          · split at hlr
            · cases hlr; rfl
            · cases hlr
          · cases hlr; rfl
      show E3 = codeE x
      rw [hx]
      exact this
    | ok p =>
      obtain ⟨h', k', q⟩ := p
      rw [hlr] at this
      exact ⟨this.2.1, this.2.2.1.symm, this.1, this.2.2.2⟩
end Go.Proofs.YtmandanmndmnhaaDoor.Tre
