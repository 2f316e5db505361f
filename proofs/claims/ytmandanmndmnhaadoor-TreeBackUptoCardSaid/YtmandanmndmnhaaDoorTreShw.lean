/-
  The document's own show and Show of trees that may be. Conditions: texts of at most 2^46 bytes.
-/
import Derived.Test.YtmandanmndmnhaaDoorTreByt
import Derived.StillTailTactics
import Derived.Deep.RegionLaw
namespace Go.Proofs.YtmandanmndmnhaaDoor.Tre
open Tks Go.RowKit
set_option linter.unusedSimpArgs false
set_option linter.unusedVariables false

theorem hex_at : ∀ m : Nat, m < 16 → (⟨#[48, 49, 50, 51, 52, 53, 54, 55, 56, 57, 97, 98, 99, 100, 101, 102]⟩ : ByteArray).data[m]? = some (hexD m)
  | 0, _ => rfl
  | 1, _ => rfl
  | 2, _ => rfl
  | 3, _ => rfl
  | 4, _ => rfl
  | 5, _ => rfl
  | 6, _ => rfl
  | 7, _ => rfl
  | 8, _ => rfl
  | 9, _ => rfl
  | 10, _ => rfl
  | 11, _ => rfl
  | 12, _ => rfl
  | 13, _ => rfl
  | 14, _ => rfl
  | 15, _ => rfl
  | n + 16, h => absurd h (by omega)
theorem hex_get (m : Nat) (h : m < (⟨#[48, 49, 50, 51, 52, 53, 54, 55, 56, 57, 97, 98, 99, 100, 101, 102]⟩ : ByteArray).size) : (⟨#[48, 49, 50, 51, 52, 53, 54, 55, 56, 57, 97, 98, 99, 100, 101, 102]⟩ : ByteArray)[m] = hexD m := by
  have h1 := hex_at m h
  rw [Array.getElem?_eq_getElem h] at h1
  exact Option.some.inj h1
theorem escB_len (c : UInt8) : (escB c).length ≤ 3 := by
  unfold escB
  split <;> simp
/-- The rest of a text. -/
def rest (s : ByteArray) (n : Nat) : List UInt8 := s.data.toList.drop n
theorem rest_zero (s : ByteArray) : rest s 0 = s.data.toList := rfl
theorem rest_nil (s : ByteArray) (n : Nat) (h : s.size ≤ n) : rest s n = [] := List.drop_eq_nil_of_le (by rw [Array.length_toList]; exact h)
theorem rest_cons (s : ByteArray) (n : Nat) (h : n < s.size) : rest s n = s[n] :: rest s (n + 1) := by
  unfold rest
  rw [List.drop_eq_getElem_cons (by rw [Array.length_toList]; exact h)]
  rfl
theorem mem_right {h : Hd} {k f : Fo} (m : MemF h k f) : rightF f = true → rightN h (len k) (rightF k) = true := by
  induction m with
  | head r =>
    intro e
    exact (Bool.and_eq_true_iff.1 (show (rightN h (len k) (rightF k) && rightF r) = true from e)).1
  | tail h' k' r' _ ih =>
    intro e
    exact ih (Bool.and_eq_true_iff.1 (show (rightN h' (len k') (rightF k') && rightF r') = true from e)).2
theorem plain_facts {c : UInt8} (h : plainB c = true) : decide ((c.toNat : Int) < 32) = false ∧ decide ((126 : Int) < (c.toNat : Int)) = false ∧ ((c.toNat : Int) == 34) = false ∧ ((c.toNat : Int) == 92) = false := by
  unfold plainB at h
  simp only [Bool.and_eq_true, decide_eq_true_eq, bne_iff_ne] at h
  obtain ⟨h1, h2, h3, h4⟩ := h
  exact ⟨decide_eq_false (by omega), decide_eq_false (by omega), beq_eq_false_iff_ne.2 (by omega), beq_eq_false_iff_ne.2 (by omega)⟩
theorem other_facts {c : UInt8} (h : plainB c = false) : (c.toNat < 32 ∨ 126 < c.toNat) ∨ (c.toNat = 34 ∨ c.toNat = 92) := by
  unfold plainB at h
  by_cases h1 : c.toNat < 32
  · exact .inl (.inl h1)
  by_cases h2 : 126 < c.toNat
  · exact .inl (.inr h2)
  by_cases h3 : c.toNat = 34
  · exact .inr (.inl h3)
  by_cases h4 : c.toNat = 92
  · exact .inr (.inr h4)
  rw [decide_eq_true (by omega), decide_eq_true (by omega), bne_iff_ne.2 h3, bne_iff_ne.2 h4] at h
  cases h
theorem escL_ge : ∀ t : List UInt8, t.length ≤ (escL t).length
  | [] => Nat.le_refl _
  | c :: t => by
    have := escL_ge t
    have e : (escL (c :: t)).length = (escB c).length + (escL t).length := by
      unfold escL
      rw [List.flatMap_cons, List.length_append]
    have h1 : 1 ≤ (escB c).length := by
      unfold escB
      split <;> simp
    rw [e, List.length_cons]
    omega
set_option maxRecDepth 1000000 in
set_option maxHeartbeats 16000000 in
theorem refshow_any (h : Hd) (k : Fo) : ∀ (v bv : Value) (w0 w : World) (B : Nat) (bs : List UInt8), NdArg w0 v h k → w0.heap.size ≤ B → Below w0.heap.size w0 w → Bytes w B bv bs → B ≤ w.heap.size → rightN h (len k) (rightF k) = true → bs.length + (nodeT h (showF k)).length ≤ 70368744177664 →
    Calls Tryd.prog 37 #[bv, v] w fun e w' => ∃ r, e = .returned r ∧ Bytes w' B r (bs ++ nodeT h (showF k)) ∧ Below B w w' ∧ Nb w w' := by
  refine all_trees (P := fun h k => ∀ (v bv : Value) (w0 w : World) (B : Nat) (bs : List UInt8), NdArg w0 v h k → w0.heap.size ≤ B → Below w0.heap.size w0 w → Bytes w B bv bs → B ≤ w.heap.size → rightN h (len k) (rightF k) = true → bs.length + (nodeT h (showF k)).length ≤ 70368744177664 →
    Calls Tryd.prog 37 #[bv, v] w fun e w' => ∃ r, e = .returned r ∧ Bytes w' B r (bs ++ nodeT h (showF k)) ∧ Below B w w' ∧ Nb w w') ?_ h k
  intro h k ih v bv w0 w B bs ha hB0 hb0 hby hBw hr hlen
  obtain ⟨ka, rfl, hka⟩ := ha
  obtain ⟨pa, qa, rfl⟩ := hka.len
  obtain ⟨r1, r2, r3, r4⟩ := right_parts hr
  have HA := Lib.hid hka
  have HM := Lib.hid hka.max
  have IH := Lib.hid ih
  have HBY := Lib.hid hby
  have HB0 := Lib.hid hB0
  have Hb0 := Lib.hid hb0
  have HBW := Lib.hid hBw
  have HR := Lib.hid hr
  have HLN := Lib.hid hlen
  have R3 := Lib.hid r3
  have R4 := Lib.hid r4
  unfold ndV
  clear hka ih hby hB0 hb0 hBw hr hlen r3 r4
  obtain ⟨res, hres⟩ : ∃ res, nodeT h (showF k) = res := ⟨_, rfl⟩
  have HRS := Lib.hid hres
  rw [hres] at HLN ⊢
  clear hres
  go_enter Tryd.func37, Tryd.ntmps37
  go_upto_region 1 with fail
  refine gen_world (fun X => Below w.heap.size w X ∧ Lies X w.heap.size (ndO h (.slice pa (len k) qa))) ⟨below_one w _, Lies.new w _⟩ ?_
  rintro X ⟨bX, lX⟩
  have BX := Lib.hid bX
  have LX := Lib.hid lX
  have BYX := Lib.hid (HBY.out.below bX)
  have SX : Hid (B ≤ X.heap.size) := Nat.le_trans HBW.out bX.size
  obtain ⟨a0, a1, a2, a3, a4, a5⟩ := lX.node
  clear bX lX
  have NB0 := Lib.hid (Nb.of_below BX.out)
  generalize w.heap.size = N at *
  by_cases z0 : h.kind = 1
  · have z1 : (h.kind == 1) = true := beq_iff_eq.2 z0
    obtain ⟨f0, f1, f2⟩ := R3.out z0
    obtain ⟨fn, hfn⟩ : ∃ fn : Nat, h.form = fn := ⟨h.form.toNat, by omega⟩
    have C := Lib.hid (fun W => refdigits_any fn (by omega) W)
    rw [← hfn] at C
    have HF : Hid (digL h.form.toNat ++ (byte 34 :: (escL h.text.data.toList ++ [byte 34])) = res) := by
      rw [← HRS.out]
      unfold Hid nodeT
      rw [if_pos z0]
    have hft : h.form.toNat = fn := by omega
    rw [hft] at HF
    clear z0 f0 f1 f2 hfn hft
    obtain ⟨D0, hD0⟩ : ∃ D0, digL fn = D0 := ⟨_, rfl⟩
    rw [hD0] at C HF
    clear hD0
    have HQ : Hid (bs.length + (D0.length + ((escL h.text.data.toList).length + 2)) ≤ 70368744177664) := by
      have h2 := congrArg List.length HF.out
      have h3 := HLN.out
      simp only [List.length_append, List.length_cons, List.length_nil] at h2
      unfold Hid
      omega
    generalize D0 = D at *
    go_wp2_with (first
      | (go_at_call 47; refine (C.out _).mono ?_; rintro e w2 ⟨rfl, hw⟩; rw [hw]; clear hw)
      | (at_builtin; refine push_text X rfl _ _ rfl B bv bs rfl BYX.out D rfl (by have := HQ.out; omega) SX.out ?_; intro v1 w1 h1 b1 n1; have O1 := Lib.hid h1; have B1 := Lib.hid b1; have N1 := Lib.hid n1; clear h1 b1 n1)
      | (at_builtin; refine push_lit w1 rfl _ _ rfl B v1 (bs ++ D) rfl O1.out [byte 34] _ rfl 1 rfl rfl (by have := HQ.out; rw [List.length_append]; omega) (by have := SX.out; have := N1.out.size; omega) ?_; intro v2 w2 h2 b2 n2; have O2 := Lib.hid h2; have B2 := Lib.hid b2; have N2 := Lib.hid n2; clear h2 b2 n2))
    have L2 := Lib.hid (N2.out.node (N1.out.node LX.out))
    have BX2 := Lib.hid (B1.out.trans B2.out)
    have NX2 := Lib.hid (N1.out.trans N2.out)
    have HT : Hid (((bs ++ D) ++ [byte 34]) ++ (escL (rest h.text 0) ++ [byte 34]) = bs ++ res) := by
      unfold Hid
      rw [← HF.out, rest_zero]
      simp
    clear a0 a1 a2 a3 a4 a5 N1 N2 B1 B2 O1 C
    have TL : Hid ((bs ++ res).length ≤ 70368744177664) := by
      unfold Hid
      rw [List.length_append]
      exact HLN.out
    have HTS : Hid (h.text.size ≤ 70368744177664) := by
      have h1 := escL_ge h.text.data.toList
      have h2 := HQ.out
      rw [Array.length_toList] at h1
      have h3 : h.text.data.size = h.text.size := rfl
      unfold Hid
      omega
    generalize (bs ++ D) ++ [byte 34] = acc0 at *
    generalize htg : bs ++ res = tgt at *
    have HTG := Lib.hid htg
    clear htg
    clear HF HQ
    go_loopw [0, 5] (fun ov iv wr => ∃ (n : Nat) (acc : List UInt8), iv = .int .i64 (n : Int) ∧ n ≤ h.text.size ∧ acc ++ (escL (rest h.text n) ++ [byte 34]) = tgt ∧ Bytes wr B ov acc ∧ Below B X wr ∧ Nb X wr) (fun _ iv _ => h.text.size - (intOf iv).toNat)
    case atStart => exact ⟨0, acc0, rfl, Nat.zero_le _, HT.out, O2.out, BX2.out, NX2.out⟩
    case round =>
      obtain ⟨n, acc, rfl, hn, ht, hby2, hb2, hn2⟩ := hrel
      have lw := hn2.node LX.out
      obtain ⟨a0, a1, a2, a3, a4, a5⟩ := lw.node
      have HTN := Lib.hid ht
      have OW := Lib.hid hby2
      have BN := Lib.hid hb2
      have NN := Lib.hid hn2
      have SW : Hid (B ≤ wr.heap.size) := Nat.le_trans SX.out hn2.size
      have i0 : (0 : Int) ≤ (n : Int) := by omega
      have LW := Lib.hid lw
      clear ht hby2 hb2 hn2 lw O2 BX2 NX2 HT
      by_cases hp : n < h.text.size
      · have hr := rest_cons h.text n hp
        obtain ⟨c, hc⟩ : ∃ c, h.text[n] = c := ⟨_, rfl⟩
        rw [hc] at hr
        have HE : Hid ((acc ++ escB c) ++ (escL (rest h.text (n + 1)) ++ [byte 34]) = tgt) := by
          have := HTN.out
          rw [hr] at this
          unfold Hid
          rw [← this]
          simp [escL]
        have AL : Hid (acc.length + (escB c).length ≤ 70368744177664) := by
          have h2 := congrArg List.length HE.out
          have h3 := TL.out
          simp only [List.length_append] at h2
          unfold Hid
          omega
        have i1 : (n : Int) < (h.text.size : Int) := by omega
        obtain ⟨w1, w2⟩ := idx_max n h.text.size hp (by have := HTS.out; unfold maxLen; omega)
        have HP := Lib.hid hp
        cases hpl : plainB c with
        | true =>
          have e : escB c = [c] := by unfold escB; rw [if_pos hpl]
          rw [e] at HE AL
          obtain ⟨q1, q2, q3, q4⟩ := plain_facts hpl
          clear hpl e hr
          go_wp2_with (first
            | (at_builtin; refine push_lit wr rfl _ _ rfl B u0 acc rfl OW.out [c] _ rfl 1 rfl rfl (by have := AL.out; simp only [List.length_cons, List.length_nil] at this; omega) (by have := SW.out; omega) ?_; intro v3 w3 h3 b3 n3; have O3 := Lib.hid h3; have B3 := Lib.hid b3; have N3 := Lib.hid n3; clear h3 b3 n3))
          go_roundw
          case rel => exact ⟨n + 1, acc ++ [c], by go_num, HP.out, HE.out, O3.out, BN.out.trans B3.out, NN.out.trans N3.out⟩
          case measure => have := HP.out; simp [intOf]; omega
        | false =>
          have e : escB c = [byte 92, hexD (c.toNat / 16), hexD (c.toNat % 16)] := by unfold escB; rw [if_neg (by rw [hpl]; decide)]
          rw [e] at HE AL
          have hof := other_facts hpl
          clear hpl e hr
          rcases hof with (q | q) | (q | q)
          · have q1 : decide ((c.toNat : Int) < 32) = true := decide_eq_true (by omega)
            have hc256 := nat_lt c
            obtain ⟨hi, ehi⟩ : ∃ hi, hi = c.toNat / 16 := ⟨_, rfl⟩
            obtain ⟨lo, elo⟩ : ∃ lo, lo = c.toNat % 16 := ⟨_, rfl⟩
            rw [← ehi, ← elo] at HE AL
            have h1 : IntKind.u8.wrap ((c.toNat : Int) / 16) = (hi : Int) := by rw [IntKind.wrap_u8]; omega
            have h2 : IntKind.u8.wrap ((c.toNat : Int) % 16) = (lo : Int) := by rw [IntKind.wrap_u8]; omega
            have h3 : (c.toNat : Int).tmod 16 = (lo : Int) := by rw [Int.tmod_eq_emod_of_nonneg (by omega)]; omega
            have h4 : IntKind.u8.wrap (lo : Int) = (lo : Int) := by rw [IntKind.wrap_u8]; omega
            have h5 : IntKind.u8.wrap ((c.toNat : Int).tmod 16) = (lo : Int) := by rw [h3, h4]
            have j0 : (0 : Int) ≤ (hi : Int) := by omega
            have j1 : (hi : Int) < 16 := by omega
            have j2 : (0 : Int) ≤ (lo : Int) := by omega
            have j3 : (lo : Int) < 16 := by omega
            clear ehi elo q hc256
            go_upto_region 9 with fail
            go_region_law (refine step_lit wr rfl _ _ rfl B u0 acc rfl OW.out [byte 92, hexD hi, hexD lo] _ (by rw [hex_get, hex_get]; rfl) 3 rfl (by decide) rfl (by have := AL.out; simp only [List.length_cons, List.length_nil] at this; omega) SW.out ?_; intro g3 c3 w3 h3' b3 n3; have O3 := Lib.hid h3'; have B3 := Lib.hid b3; have N3 := Lib.hid n3; clear h3' b3 n3)
            all_goals
              go_wp2_with fail
              go_roundw
              case rel => exact ⟨n + 1, acc ++ [byte 92, hexD hi, hexD lo], by go_num, HP.out, HE.out, O3.out, BN.out.trans B3.out, NN.out.trans N3.out⟩
              case measure => have := HP.out; simp [intOf]; omega
          · have q1 : decide ((c.toNat : Int) < 32) = false := decide_eq_false (by omega)
            have q2 : decide ((126 : Int) < (c.toNat : Int)) = true := decide_eq_true (by omega)
            have hc256 := nat_lt c
            obtain ⟨hi, ehi⟩ : ∃ hi, hi = c.toNat / 16 := ⟨_, rfl⟩
            obtain ⟨lo, elo⟩ : ∃ lo, lo = c.toNat % 16 := ⟨_, rfl⟩
            rw [← ehi, ← elo] at HE AL
            have h1 : IntKind.u8.wrap ((c.toNat : Int) / 16) = (hi : Int) := by rw [IntKind.wrap_u8]; omega
            have h2 : IntKind.u8.wrap ((c.toNat : Int) % 16) = (lo : Int) := by rw [IntKind.wrap_u8]; omega
            have h3 : (c.toNat : Int).tmod 16 = (lo : Int) := by rw [Int.tmod_eq_emod_of_nonneg (by omega)]; omega
            have h4 : IntKind.u8.wrap (lo : Int) = (lo : Int) := by rw [IntKind.wrap_u8]; omega
            have h5 : IntKind.u8.wrap ((c.toNat : Int).tmod 16) = (lo : Int) := by rw [h3, h4]
            have j0 : (0 : Int) ≤ (hi : Int) := by omega
            have j1 : (hi : Int) < 16 := by omega
            have j2 : (0 : Int) ≤ (lo : Int) := by omega
            have j3 : (lo : Int) < 16 := by omega
            clear ehi elo q hc256
            go_upto_region 9 with fail
            go_region_law (refine step_lit wr rfl _ _ rfl B u0 acc rfl OW.out [byte 92, hexD hi, hexD lo] _ (by rw [hex_get, hex_get]; rfl) 3 rfl (by decide) rfl (by have := AL.out; simp only [List.length_cons, List.length_nil] at this; omega) SW.out ?_; intro g3 c3 w3 h3' b3 n3; have O3 := Lib.hid h3'; have B3 := Lib.hid b3; have N3 := Lib.hid n3; clear h3' b3 n3)
            all_goals
              go_wp2_with fail
              go_roundw
              case rel => exact ⟨n + 1, acc ++ [byte 92, hexD hi, hexD lo], by go_num, HP.out, HE.out, O3.out, BN.out.trans B3.out, NN.out.trans N3.out⟩
              case measure => have := HP.out; simp [intOf]; omega
          · have q1 : decide ((c.toNat : Int) < 32) = false := decide_eq_false (by omega)
            have q2 : decide ((126 : Int) < (c.toNat : Int)) = false := decide_eq_false (by omega)
            have q3 : ((c.toNat : Int) == 34) = true := beq_iff_eq.2 (by omega)
            have hc256 := nat_lt c
            obtain ⟨hi, ehi⟩ : ∃ hi, hi = c.toNat / 16 := ⟨_, rfl⟩
            obtain ⟨lo, elo⟩ : ∃ lo, lo = c.toNat % 16 := ⟨_, rfl⟩
            rw [← ehi, ← elo] at HE AL
            have h1 : IntKind.u8.wrap ((c.toNat : Int) / 16) = (hi : Int) := by rw [IntKind.wrap_u8]; omega
            have h2 : IntKind.u8.wrap ((c.toNat : Int) % 16) = (lo : Int) := by rw [IntKind.wrap_u8]; omega
            have h3 : (c.toNat : Int).tmod 16 = (lo : Int) := by rw [Int.tmod_eq_emod_of_nonneg (by omega)]; omega
            have h4 : IntKind.u8.wrap (lo : Int) = (lo : Int) := by rw [IntKind.wrap_u8]; omega
            have h5 : IntKind.u8.wrap ((c.toNat : Int).tmod 16) = (lo : Int) := by rw [h3, h4]
            have j0 : (0 : Int) ≤ (hi : Int) := by omega
            have j1 : (hi : Int) < 16 := by omega
            have j2 : (0 : Int) ≤ (lo : Int) := by omega
            have j3 : (lo : Int) < 16 := by omega
            clear ehi elo q hc256
            go_upto_region 9 with fail
            go_region_law (refine step_lit wr rfl _ _ rfl B u0 acc rfl OW.out [byte 92, hexD hi, hexD lo] _ (by rw [hex_get, hex_get]; rfl) 3 rfl (by decide) rfl (by have := AL.out; simp only [List.length_cons, List.length_nil] at this; omega) SW.out ?_; intro g3 c3 w3 h3' b3 n3; have O3 := Lib.hid h3'; have B3 := Lib.hid b3; have N3 := Lib.hid n3; clear h3' b3 n3)
            all_goals
              go_wp2_with fail
              go_roundw
              case rel => exact ⟨n + 1, acc ++ [byte 92, hexD hi, hexD lo], by go_num, HP.out, HE.out, O3.out, BN.out.trans B3.out, NN.out.trans N3.out⟩
              case measure => have := HP.out; simp [intOf]; omega
          · have q1 : decide ((c.toNat : Int) < 32) = false := decide_eq_false (by omega)
            have q2 : decide ((126 : Int) < (c.toNat : Int)) = false := decide_eq_false (by omega)
            have q3 : ((c.toNat : Int) == 34) = false := beq_eq_false_iff_ne.2 (by omega)
            have q4 : ((c.toNat : Int) == 92) = true := beq_iff_eq.2 (by omega)
            have hc256 := nat_lt c
            obtain ⟨hi, ehi⟩ : ∃ hi, hi = c.toNat / 16 := ⟨_, rfl⟩
            obtain ⟨lo, elo⟩ : ∃ lo, lo = c.toNat % 16 := ⟨_, rfl⟩
            rw [← ehi, ← elo] at HE AL
            have h1 : IntKind.u8.wrap ((c.toNat : Int) / 16) = (hi : Int) := by rw [IntKind.wrap_u8]; omega
            have h2 : IntKind.u8.wrap ((c.toNat : Int) % 16) = (lo : Int) := by rw [IntKind.wrap_u8]; omega
            have h3 : (c.toNat : Int).tmod 16 = (lo : Int) := by rw [Int.tmod_eq_emod_of_nonneg (by omega)]; omega
            have h4 : IntKind.u8.wrap (lo : Int) = (lo : Int) := by rw [IntKind.wrap_u8]; omega
            have h5 : IntKind.u8.wrap ((c.toNat : Int).tmod 16) = (lo : Int) := by rw [h3, h4]
            have j0 : (0 : Int) ≤ (hi : Int) := by omega
            have j1 : (hi : Int) < 16 := by omega
            have j2 : (0 : Int) ≤ (lo : Int) := by omega
            have j3 : (lo : Int) < 16 := by omega
            clear ehi elo q hc256
            go_upto_region 9 with fail
            go_region_law (refine step_lit wr rfl _ _ rfl B u0 acc rfl OW.out [byte 92, hexD hi, hexD lo] _ (by rw [hex_get, hex_get]; rfl) 3 rfl (by decide) rfl (by have := AL.out; simp only [List.length_cons, List.length_nil] at this; omega) SW.out ?_; intro g3 c3 w3 h3' b3 n3; have O3 := Lib.hid h3'; have B3 := Lib.hid b3; have N3 := Lib.hid n3; clear h3' b3 n3)
            all_goals
              go_wp2_with fail
              go_roundw
              case rel => exact ⟨n + 1, acc ++ [byte 92, hexD hi, hexD lo], by go_num, HP.out, HE.out, O3.out, BN.out.trans B3.out, NN.out.trans N3.out⟩
              case measure => have := HP.out; simp [intOf]; omega
      · have hq : n = h.text.size := by omega
        have HF : Hid (acc ++ [byte 34] = tgt) := by
          have := HTN.out
          rw [rest_nil _ _ (by omega)] at this
          exact this
        go_wp2_with (first
          | (at_builtin; refine push_lit wr rfl _ _ rfl B u0 acc rfl OW.out [byte 34] _ rfl 1 rfl rfl (by have := TL.out; have h2 := congrArg List.length HF.out; rw [List.length_append] at h2; simp only [List.length_cons, List.length_nil] at h2; omega) (by have := SW.out; omega) ?_; intro v3 w3 h3 b3 n3; have O3 := Lib.hid h3; have B3 := Lib.hid b3; have N3 := Lib.hid n3; clear h3 b3 n3))
        go_ret
        exact ⟨_, rfl, by rw [HTG.out, ← HF.out]; exact O3.out, (BX.out.mono HBW.out).trans (BN.out.trans B3.out), NB0.out.trans (NN.out.trans N3.out)⟩
  · have z1 : (h.kind == 1) = false := beq_eq_false_iff_ne.2 z0
    obtain ⟨t0, f0, f1, hrk⟩ := R4.out z0
    obtain ⟨kn, hkn⟩ : ∃ kn : Nat, h.kind = kn := ⟨h.kind.toNat, by omega⟩
    have C := Lib.hid (fun W => refdigits_any kn (by omega) W)
    rw [← hkn] at C
    have HF : Hid (byte 40 :: (digL h.kind.toNat ++ ((if h.form = 1 then [byte 33] else []) ++ (showF k ++ [byte 41]))) = res) := by
      rw [← HRS.out]
      unfold Hid nodeT
      rw [if_neg z0]
    have hkt : h.kind.toNat = kn := by omega
    rw [hkt] at HF
    have HRK := Lib.hid hrk
    have HTL : Hid ((bs ++ res).length ≤ 70368744177664) := by
      unfold Hid
      rw [List.length_append]
      exact HLN.out
    obtain ⟨D, hD⟩ : ∃ D, digL kn = D := ⟨_, rfl⟩
    rw [hD] at C HF
    have HK0 : Hid (bs.length + (1 + (D.length + 1)) ≤ 70368744177664 ∧ bs.length + (1 + (D.length + ((if h.form = 1 then [byte 33] else []).length + 1))) ≤ 70368744177664) := by
      have h2 := congrArg List.length HF.out
      have h3 := HLN.out
      simp only [List.length_append, List.length_cons, List.length_nil] at h2
      exact ⟨by omega, by omega⟩
    clear z0 t0 hkn hkt hD hrk
    generalize htg : bs ++ res = tgt at HTL
    have HTG := Lib.hid htg
    clear htg
    by_cases g0 : h.form = 1
    · have g1 : (h.form == 1) = true := beq_iff_eq.2 g0
      rw [if_pos g0] at HF HK0
      clear g0 f0 f1
      go_wp2_with (first
        | (go_at_call 47; refine (C.out _).mono ?_; rintro e w2 ⟨rfl, hw⟩; rw [hw]; clear hw)
        | (at_builtin; refine push_lit X rfl _ _ rfl B bv bs rfl BYX.out [byte 40] _ rfl 1 rfl rfl (by have := HK0.out.1; omega) (by have := SX.out; omega) ?_; intro v1 w1 h1 b1 n1; have O1 := Lib.hid h1; have B1 := Lib.hid b1; have N1 := Lib.hid n1; clear h1 b1 n1; obtain ⟨a0, a1, a2, a3, a4, a5⟩ := (N1.out.node LX.out).node)
        | (at_builtin; refine push_text w1 rfl _ _ rfl B v1 (bs ++ [byte 40]) rfl O1.out D rfl (by have := HK0.out.1; rw [List.length_append]; simp only [List.length_cons, List.length_nil]; omega) (by have := SX.out; have := N1.out.size; omega) ?_; intro v2 w2 h2 b2 n2; have O2 := Lib.hid h2; have B2 := Lib.hid b2; have N2 := Lib.hid n2; clear h2 b2 n2; obtain ⟨a0, a1, a2, a3, a4, a5⟩ := (N2.out.node (N1.out.node LX.out)).node)
        | (at_builtin; refine push_lit w2 rfl _ _ rfl B v2 ((bs ++ [byte 40]) ++ D) rfl O2.out [byte 33] _ rfl 1 rfl rfl (by have := HK0.out.2; simp only [List.length_cons, List.length_nil] at this; rw [List.length_append, List.length_append]; simp only [List.length_cons, List.length_nil]; omega) (by have := SX.out; have := N1.out.size; have := N2.out.size; omega) ?_; intro v3 w3 h3 b3 n3; have O3 := Lib.hid h3; have B3 := Lib.hid b3; have N3 := Lib.hid n3; clear h3 b3 n3))
      have NQ := Lib.hid ((N1.out.trans N2.out).trans N3.out)
      have BQ := Lib.hid ((B1.out.trans B2.out).trans B3.out)
      have OQ := O3
      clear N1 N2 N3 B1 B2 B3 O1 O2 O3
      have LQ := Lib.hid (NQ.out.node LX.out)
      clear a0 a1 a2 a3 a4 a5
      have TL := HTL
      have HT : Hid ((((bs ++ [byte 40]) ++ D) ++ [byte 33]) ++ (showF (dropF 0 k) ++ [byte 41]) = tgt) := by
        unfold Hid
        rw [← HTG.out, ← HF.out, drop_zero]
        simp
      generalize (((bs ++ [byte 40]) ++ D) ++ [byte 33]) = acc0 at *
      clear HF HK0 C R3 R4 HRS HLN
      go_loopw [0, 7] (fun ov iv wr => ∃ (n : Nat) (acc : List UInt8), iv = .int .i64 (n : Int) ∧ n ≤ len k ∧ acc ++ (showF (dropF n k) ++ [byte 41]) = tgt ∧ Bytes wr B ov acc ∧ Below B X wr ∧ Nb X wr) (fun _ iv _ => len k - (intOf iv).toNat)
      case atStart => exact ⟨0, acc0, rfl, Nat.zero_le _, HT.out, OQ.out, BQ.out, NQ.out⟩
      case round =>
        obtain ⟨n, acc, rfl, hn, ht, hby2, hb2, hn2⟩ := hrel
        have lw := hn2.node LX.out
        obtain ⟨a0, a1, a2, a3, a4, a5⟩ := lw.node
        have HTN := Lib.hid ht
        have OW := Lib.hid hby2
        have BN := Lib.hid hb2
        have NN := Lib.hid hn2
        have LW := Lib.hid lw
        have SW : Hid (B ≤ wr.heap.size) := Nat.le_trans SX.out hn2.size
        have BW0 : Hid (Below w0.heap.size w0 wr) := (Hb0.out.trans (BX.out.mono (Nat.le_trans HB0.out HBW.out))).trans (BN.out.mono HB0.out)
        have i0 : (0 : Int) ≤ (n : Int) := by omega
        clear ht hby2 hb2 hn2 lw HT LQ
        by_cases hp : n < len k
        · obtain ⟨h1, k1, e1⟩ := drop_cons n k hp
          rcases HA.out with ⟨e, _⟩ | ⟨ba, oa, ca, ea, -, la, fa⟩
          · rw [e] at hp
            exact absurd hp (by simp [len])
          simp only [Value.slice.injEq] at ea
          obtain ⟨rfl, -, rfl⟩ := ea
          obtain ⟨v1', p0, p1, p2, p3, p4, p5, pk⟩ := fa.six e1
          have hr1 := mem_right (mem_drop n k e1) HRK.out
          have HE : Hid (((acc ++ [byte 32]) ++ nodeT h1 (showF k1)) ++ (showF (dropF (n + 1) k) ++ [byte 41]) = tgt) := by
            have := HTN.out
            rw [e1] at this
            unfold Hid
            rw [← this]
            simp [showF]
          have AL : Hid ((acc ++ [byte 32]).length + (nodeT h1 (showF k1)).length ≤ 70368744177664) := by
            have h2 := congrArg List.length HE.out
            have h3 := TL.out
            simp only [List.length_append] at h2 ⊢
            unfold Hid
            omega
          have CK := Lib.hid (fun (W : World) (bv' : Value) (hW : Below w0.heap.size w0 W) (hb : Bytes W B bv' (acc ++ [byte 32])) (hs : B ≤ W.heap.size) => IH.out h1 k1 (mem_drop n k e1) (ndV h1 v1') bv' w0 W B (acc ++ [byte 32]) ⟨v1', rfl, pk⟩ HB0.out hW hb hs hr1 AL.out)
          unfold ndV at CK
          have SIX : Hid (∀ W : World, Below w0.heap.size w0 W → W.cell? ⟨ba, oa + n * 6, none⟩ = some (.int .i64 h1.kind) ∧ W.cell? ⟨ba, oa + n * 6 + 1, none⟩ = some (.int .i64 h1.form) ∧ W.cell? ⟨ba, oa + n * 6 + 2, none⟩ = some (.string h1.text) ∧ W.cell? ⟨ba, oa + n * 6 + 3, none⟩ = some (.int .i64 h1.line) ∧ W.cell? ⟨ba, oa + n * 6 + 4, none⟩ = some (.int .i64 h1.col) ∧ W.cell? ⟨ba, oa + n * 6 + 5, none⟩ = some v1') := by
            intro W hW
            have hc : ∀ o, W.cell? ⟨ba, o, none⟩ = w0.cell? ⟨ba, o, none⟩ := fun o => World.cell?_of_block (hW.block ba la)
            exact ⟨(hc _).trans p0, (hc _).trans p1, (hc _).trans p2, (hc _).trans p3, (hc _).trans p4, (hc _).trans p5⟩
          have i1 : (n : Int) < (len k : Int) := by omega
          obtain ⟨w1', w2'⟩ := idx_max n (len k) hp HM.out
          have HP := Lib.hid hp
          clear hp p0 p1 p2 p3 p4 p5 pk fa la e1 hr1
          go_wp2_with (first
            | (at_builtin; refine push_lit wr rfl _ _ rfl B u0 acc rfl OW.out [byte 32] _ rfl 1 rfl rfl (by have := AL.out; simp only [List.length_append, List.length_cons, List.length_nil] at this; omega) (by have := SW.out; omega) ?_; intro v5 w5 h5 b5 n5; have O5 := Lib.hid h5; have B5 := Lib.hid b5; have N5 := Lib.hid n5; clear h5 b5 n5; have W05 := Lib.hid (BW0.out.trans (B5.out.mono HB0.out)); obtain ⟨a0, a1, a2, a3, a4, a5⟩ := (N5.out.node LW.out).node; obtain ⟨p0, p1, p2, p3, p4, p5⟩ := SIX.out w5 W05.out)
            | (go_at_call 37; refine (CK.out w5 v5 W05.out O5.out (by have := SW.out; have := N5.out.size; omega)).mono ?_; rintro e w6 ⟨r6, rfl, o6, b6, n6⟩; have O6 := Lib.hid o6; have B6 := Lib.hid b6; have N6 := Lib.hid n6; clear o6 b6 n6))
          go_roundw
          case rel => exact ⟨n + 1, (acc ++ [byte 32]) ++ nodeT h1 (showF k1), by go_num, HP.out, HE.out, O6.out, (BN.out.trans B5.out).trans B6.out, (NN.out.trans N5.out).trans N6.out⟩
          case measure => have := HP.out; simp [intOf]; omega
        · have hq : n = len k := by omega
          have HF : Hid (acc ++ [byte 41] = tgt) := by
            have := HTN.out
            rw [hq, drop_len] at this
            exact this
          go_wp2_with (first
            | (at_builtin; refine push_lit wr rfl _ _ rfl B u0 acc rfl OW.out [byte 41] _ rfl 1 rfl rfl (by have := TL.out; have h2 := congrArg List.length HF.out; rw [List.length_append] at h2; simp only [List.length_cons, List.length_nil] at h2; omega) (by have := SW.out; omega) ?_; intro v5 w5 h5 b5 n5; have O5 := Lib.hid h5; have B5 := Lib.hid b5; have N5 := Lib.hid n5; clear h5 b5 n5))
          go_ret
          exact ⟨_, rfl, by rw [HTG.out, ← HF.out]; exact O5.out, (BX.out.mono HBW.out).trans (BN.out.trans B5.out), NB0.out.trans (NN.out.trans N5.out)⟩
    · have g1 : (h.form == 1) = false := beq_eq_false_iff_ne.2 g0
      rw [if_neg g0] at HF HK0
      clear g0 f0 f1
      go_wp2_with (first
        | (go_at_call 47; refine (C.out _).mono ?_; rintro e w2 ⟨rfl, hw⟩; rw [hw]; clear hw)
        | (at_builtin; refine push_lit X rfl _ _ rfl B bv bs rfl BYX.out [byte 40] _ rfl 1 rfl rfl (by have := HK0.out.1; omega) (by have := SX.out; omega) ?_; intro v1 w1 h1 b1 n1; have O1 := Lib.hid h1; have B1 := Lib.hid b1; have N1 := Lib.hid n1; clear h1 b1 n1; obtain ⟨a0, a1, a2, a3, a4, a5⟩ := (N1.out.node LX.out).node)
        | (at_builtin; refine push_text w1 rfl _ _ rfl B v1 (bs ++ [byte 40]) rfl O1.out D rfl (by have := HK0.out.1; rw [List.length_append]; simp only [List.length_cons, List.length_nil]; omega) (by have := SX.out; have := N1.out.size; omega) ?_; intro v2 w2 h2 b2 n2; have O2 := Lib.hid h2; have B2 := Lib.hid b2; have N2 := Lib.hid n2; clear h2 b2 n2; obtain ⟨a0, a1, a2, a3, a4, a5⟩ := (N2.out.node (N1.out.node LX.out)).node))
      have NQ := Lib.hid (N1.out.trans N2.out)
      have BQ := Lib.hid (B1.out.trans B2.out)
      have OQ := O2
      clear N1 N2 B1 B2 O1 O2
      have LQ := Lib.hid (NQ.out.node LX.out)
      clear a0 a1 a2 a3 a4 a5
      have TL := HTL
      have HT : Hid (((bs ++ [byte 40]) ++ D) ++ (showF (dropF 0 k) ++ [byte 41]) = tgt) := by
        unfold Hid
        rw [← HTG.out, ← HF.out, drop_zero]
        simp
      generalize ((bs ++ [byte 40]) ++ D) = acc0 at *
      clear HF HK0 C R3 R4 HRS HLN
      go_loopw [0, 7] (fun ov iv wr => ∃ (n : Nat) (acc : List UInt8), iv = .int .i64 (n : Int) ∧ n ≤ len k ∧ acc ++ (showF (dropF n k) ++ [byte 41]) = tgt ∧ Bytes wr B ov acc ∧ Below B X wr ∧ Nb X wr) (fun _ iv _ => len k - (intOf iv).toNat)
      case atStart => exact ⟨0, acc0, rfl, Nat.zero_le _, HT.out, OQ.out, BQ.out, NQ.out⟩
      case round =>
        obtain ⟨n, acc, rfl, hn, ht, hby2, hb2, hn2⟩ := hrel
        have lw := hn2.node LX.out
        obtain ⟨a0, a1, a2, a3, a4, a5⟩ := lw.node
        have HTN := Lib.hid ht
        have OW := Lib.hid hby2
        have BN := Lib.hid hb2
        have NN := Lib.hid hn2
        have LW := Lib.hid lw
        have SW : Hid (B ≤ wr.heap.size) := Nat.le_trans SX.out hn2.size
        have BW0 : Hid (Below w0.heap.size w0 wr) := (Hb0.out.trans (BX.out.mono (Nat.le_trans HB0.out HBW.out))).trans (BN.out.mono HB0.out)
        have i0 : (0 : Int) ≤ (n : Int) := by omega
        clear ht hby2 hb2 hn2 lw HT LQ
        by_cases hp : n < len k
        · obtain ⟨h1, k1, e1⟩ := drop_cons n k hp
          rcases HA.out with ⟨e, _⟩ | ⟨ba, oa, ca, ea, -, la, fa⟩
          · rw [e] at hp
            exact absurd hp (by simp [len])
          simp only [Value.slice.injEq] at ea
          obtain ⟨rfl, -, rfl⟩ := ea
          obtain ⟨v1', p0, p1, p2, p3, p4, p5, pk⟩ := fa.six e1
          have hr1 := mem_right (mem_drop n k e1) HRK.out
          have HE : Hid (((acc ++ [byte 32]) ++ nodeT h1 (showF k1)) ++ (showF (dropF (n + 1) k) ++ [byte 41]) = tgt) := by
            have := HTN.out
            rw [e1] at this
            unfold Hid
            rw [← this]
            simp [showF]
          have AL : Hid ((acc ++ [byte 32]).length + (nodeT h1 (showF k1)).length ≤ 70368744177664) := by
            have h2 := congrArg List.length HE.out
            have h3 := TL.out
            simp only [List.length_append] at h2 ⊢
            unfold Hid
            omega
          have CK := Lib.hid (fun (W : World) (bv' : Value) (hW : Below w0.heap.size w0 W) (hb : Bytes W B bv' (acc ++ [byte 32])) (hs : B ≤ W.heap.size) => IH.out h1 k1 (mem_drop n k e1) (ndV h1 v1') bv' w0 W B (acc ++ [byte 32]) ⟨v1', rfl, pk⟩ HB0.out hW hb hs hr1 AL.out)
          unfold ndV at CK
          have SIX : Hid (∀ W : World, Below w0.heap.size w0 W → W.cell? ⟨ba, oa + n * 6, none⟩ = some (.int .i64 h1.kind) ∧ W.cell? ⟨ba, oa + n * 6 + 1, none⟩ = some (.int .i64 h1.form) ∧ W.cell? ⟨ba, oa + n * 6 + 2, none⟩ = some (.string h1.text) ∧ W.cell? ⟨ba, oa + n * 6 + 3, none⟩ = some (.int .i64 h1.line) ∧ W.cell? ⟨ba, oa + n * 6 + 4, none⟩ = some (.int .i64 h1.col) ∧ W.cell? ⟨ba, oa + n * 6 + 5, none⟩ = some v1') := by
            intro W hW
            have hc : ∀ o, W.cell? ⟨ba, o, none⟩ = w0.cell? ⟨ba, o, none⟩ := fun o => World.cell?_of_block (hW.block ba la)
            exact ⟨(hc _).trans p0, (hc _).trans p1, (hc _).trans p2, (hc _).trans p3, (hc _).trans p4, (hc _).trans p5⟩
          have i1 : (n : Int) < (len k : Int) := by omega
          obtain ⟨w1', w2'⟩ := idx_max n (len k) hp HM.out
          have HP := Lib.hid hp
          clear hp p0 p1 p2 p3 p4 p5 pk fa la e1 hr1
          go_wp2_with (first
            | (at_builtin; refine push_lit wr rfl _ _ rfl B u0 acc rfl OW.out [byte 32] _ rfl 1 rfl rfl (by have := AL.out; simp only [List.length_append, List.length_cons, List.length_nil] at this; omega) (by have := SW.out; omega) ?_; intro v5 w5 h5 b5 n5; have O5 := Lib.hid h5; have B5 := Lib.hid b5; have N5 := Lib.hid n5; clear h5 b5 n5; have W05 := Lib.hid (BW0.out.trans (B5.out.mono HB0.out)); obtain ⟨a0, a1, a2, a3, a4, a5⟩ := (N5.out.node LW.out).node; obtain ⟨p0, p1, p2, p3, p4, p5⟩ := SIX.out w5 W05.out)
            | (go_at_call 37; refine (CK.out w5 v5 W05.out O5.out (by have := SW.out; have := N5.out.size; omega)).mono ?_; rintro e w6 ⟨r6, rfl, o6, b6, n6⟩; have O6 := Lib.hid o6; have B6 := Lib.hid b6; have N6 := Lib.hid n6; clear o6 b6 n6))
          go_roundw
          case rel => exact ⟨n + 1, (acc ++ [byte 32]) ++ nodeT h1 (showF k1), by go_num, HP.out, HE.out, O6.out, (BN.out.trans B5.out).trans B6.out, (NN.out.trans N5.out).trans N6.out⟩
          case measure => have := HP.out; simp [intOf]; omega
        · have hq : n = len k := by omega
          have HF : Hid (acc ++ [byte 41] = tgt) := by
            have := HTN.out
            rw [hq, drop_len] at this
            exact this
          go_wp2_with (first
            | (at_builtin; refine push_lit wr rfl _ _ rfl B u0 acc rfl OW.out [byte 41] _ rfl 1 rfl rfl (by have := TL.out; have h2 := congrArg List.length HF.out; rw [List.length_append] at h2; simp only [List.length_cons, List.length_nil] at h2; omega) (by have := SW.out; omega) ?_; intro v5 w5 h5 b5 n5; have O5 := Lib.hid h5; have B5 := Lib.hid b5; have N5 := Lib.hid n5; clear h5 b5 n5))
          go_ret
          exact ⟨_, rfl, by rw [HTG.out, ← HF.out]; exact O5.out, (BX.out.mono HBW.out).trans (BN.out.trans B5.out), NB0.out.trans (NN.out.trans N5.out)⟩
end Go.Proofs.YtmandanmndmnhaaDoor.Tre
