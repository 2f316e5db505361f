/-
  The program's reader: a byte of a leaf's text. Conditions: texts of at most 2^24 bytes.
-/
import Derived.Test.YtmandanmndmnhaaDoorTreRnw
import Derived.Deep.QuietTactic
import Derived.BigQuiet
namespace Go.Proofs.YtmandanmndmnhaaDoor.Tre
open Tks Go.RowKit
set_option linter.unusedSimpArgs false
set_option linter.unusedVariables false

/-- The byte that is written there, and what follows. -/
def slashL (r : List UInt8) : Option (UInt8 × List UInt8) :=
  match r with
  | a :: b :: q => if halfL a < 16 ∧ halfL b < 16 ∧ plainB (byte (halfL a * 16 + halfL b)) = false then some (byte (halfL a * 16 + halfL b), q) else none
  | _ => none
def chL (l : List UInt8) : Option (UInt8 × List UInt8) :=
  match l with
  | [] => none
  | c :: r => if c.toNat = 92 then slashL r else if plainB c = true then some (c, r) else none
theorem chL_cons (c : UInt8) (r : List UInt8) : chL (c :: r) = if c.toNat = 92 then slashL r else if plainB c = true then some (c, r) else none := rfl
theorem slashL_two (a b : UInt8) (q : List UInt8) : slashL (a :: b :: q) = if halfL a < 16 ∧ halfL b < 16 ∧ plainB (byte (halfL a * 16 + halfL b)) = false then some (byte (halfL a * 16 + halfL b), q) else none := rfl
def consT (c : UInt8) (o : Option (List UInt8 × List UInt8)) : Option (List UInt8 × List UInt8) := o.map (fun p => (c :: p.1, p.2))
theorem txt_ch {l : List UInt8} (h : l.head? ≠ some (byte 34)) : txtL l = match chL l with
    | none => none
    | some (c, q) => consT c (txtL q) := by
  cases l with
  | nil => rfl
  | cons c r =>
    have hne : c.toNat ≠ 34 := fun e => h (by rw [List.head?_cons, byte_eq e])
    rw [chL_cons]
    by_cases h92 : c.toNat = 92
    · rw [if_pos h92]
      match r with
      | [] => exact txt_short h92 [] (by simp)
      | [d] => exact txt_short h92 [d] (by simp)
      | a :: b :: q =>
        rw [txt_slash c h92, slashL_two]
        by_cases hc : halfL a < 16 ∧ halfL b < 16 ∧ plainB (byte (halfL a * 16 + halfL b)) = false
        · rw [if_pos hc, if_pos hc]
          rfl
        · rw [if_neg hc, if_neg hc]
    · rw [if_neg h92]
      cases hp : plainB c with
      | true =>
        rw [if_pos rfl, txt_plain2 hp]
        rfl
      | false =>
        rw [if_neg (by decide), txt_none hne hp h92]
theorem ch_short {l q : List UInt8} {c : UInt8} (h : chL l = some (c, q)) : q.length < l.length := by
  cases l with
  | nil => cases h
  | cons a r =>
    rw [chL_cons] at h
    split at h
    · match r, h with
      | [], h => cases h
      | [d], h => cases h
      | x :: y :: z, h =>
        rw [slashL_two] at h
        split at h
        · cases h
          simp
          omega
        · cases h
    · split at h
      · cases h
        simp
      · cases h
def hexS : ByteArray := ⟨#[48, 49, 50, 51, 52, 53, 54, 55, 56, 57, 97, 98, 99, 100, 101, 102]⟩
def idxV (a : UInt8) : Int := if halfL a < 16 then (halfL a : Int) else -1
theorem idx_fin : ∀ n : Fin 256, Lib.indexByte hexS.data.toList (UInt8.ofNat n.val) = idxV (UInt8.ofNat n.val) := by decide +kernel
theorem idx_all (a : UInt8) : Lib.indexByte hexS.data.toList a = idxV a := by
  have := idx_fin ⟨a.toNat, nat_lt a⟩
  rw [UInt8.ofNat_toNat] at this
  exact this
theorem idx_any (a : UInt8) (w : World) : Calls Tryd.prog 54 #[.string ⟨#[48, 49, 50, 51, 52, 53, 54, 55, 56, 57, 97, 98, 99, 100, 101, 102]⟩, .int .u8 (a.toNat : Int)] w fun e w' => e = .returned (.int .i64 (idxV a)) ∧ w' = w := by
  refine (Qt.index_any hexS (a.toNat : Int) w).mono ?_
  rintro e w' ⟨rfl, rfl⟩
  have e1 : ((a.toNat : Int).toNat).toUInt8 = a := by
    rw [Int.toNat_natCast]
    exact UInt8.ofNat_toNat
  rw [e1, idx_all]
  exact ⟨rfl, rfl⟩
theorem bits_hex : ∀ x y : Fin 16, bits BinOp.or IntKind.i64 ((x.val : Int) * 16) (y.val : Int) = ((x.val * 16 + y.val : Nat) : Int) := by decide +kernel
theorem plainZ (v : Nat) (hv : v < 256) (w : World) : Calls Tryd.prog 45 #[.int .u8 (v : Int)] w fun e w' => e = .returned (.bool (plainB (byte v))) ∧ w' = w := by
  have := plain_any (byte v) w
  rw [byte_nat v hv] at this
  exact this
def ChOut (t : ByteArray) (R : Nat) (w : World) (e : Ending) (w' : World) : Prop :=
  ∃ (v : Int) (ok : Bool) (t' : ByteArray), e = .returned (.tuple #[.int .u8 v, .bool ok]) ∧ Rd w' R t' ∧ Only R w w' ∧ t'.size ≤ t.size ∧ (match chL (toL t) with
    | none => ok = false
    | some (c, q) => ok = true ∧ v = (c.toNat : Int) ∧ toL t' = q)
theorem ChOut.bad {t : ByteArray} {R : Nat} {w w' : World} {e : Ending} {v : Int} {t' : ByteArray} (he : e = .returned (.tuple #[.int .u8 v, .bool false])) (hr : Rd w' R t') (ho : Only R w w') (hs : t'.size ≤ t.size) (hc : chL (toL t) = none) : ChOut t R w e w' :=
  ⟨v, false, t', he, hr, ho, hs, by rw [hc]⟩
theorem ChOut.good {t : ByteArray} {R : Nat} {w w' : World} {e : Ending} {c : UInt8} {q : List UInt8} {t' : ByteArray} (he : e = .returned (.tuple #[.int .u8 (c.toNat : Int), .bool true])) (hr : Rd w' R t') (ho : Only R w w') (hs : t'.size ≤ t.size) (hc : chL (toL t) = some (c, q)) (hq : toL t' = q) : ChOut t R w e w' :=
  ⟨_, true, t', he, hr, ho, hs, by rw [hc]; exact ⟨rfl, rfl, hq⟩⟩
set_option maxRecDepth 1000000 in
set_option maxHeartbeats 4000000 in
theorem chr_plain (t : ByteArray) (hs : t.size ≤ 16777216) (hn : ¬ (toL t).head? = some (byte 92)) (R : Nat) (w : World) (hr : Rd w R t) :
    Calls Tryd.prog 49 #[.pointer (some ⟨R, 0, none⟩)] w (ChOut t R w) := by
  have HT := Lib.hid (takeZ 92 92 rfl (by omega) t hs R w hr)
  have e1 : headIs t (byte 92) = false := decide_eq_false hn
  have e2 : after t (byte 92) = t := by unfold after; rw [if_neg hn]
  rw [e1, e2] at HT
  have HN := Lib.hid hn
  clear e1 e2 hr hn
  by_cases h1 : t.size = 0
  · have e0 : (t.toList == []) = true := by
      rw [Lib.toList_data, beq_iff_eq]
      exact List.eq_nil_of_length_eq_zero (by rw [← h1]; exact toL_len t)
    have HC : Hid (chL (toL t) = none) := by
      unfold Hid
      rw [List.eq_nil_of_length_eq_zero (by rw [toL_len]; exact h1 : (toL t).length = 0)]
      rfl
    clear h1 hs
    go_enter Tryd.func49, Tryd.ntmps49
    go_wp2_with (first
      | (go_at_call 39; refine HT.out.mono ?_; rintro e w2 ⟨rfl, r2, o2⟩; have R2 := Lib.hid r2; have O2 := Lib.hid o2; clear r2 o2; have c0 := R2.out.c0; have f0 := R2.out.free0))
    go_ret2
    exact .bad rfl R2.out O2.out (Nat.le_refl _) HC.out
  · have hpos : 0 < t.size := by omega
    have hl := toL_at t hpos
    have e0 : (t.toList == []) = false := by
      rw [Lib.toList_data, beq_eq_false_iff_ne]
      show ¬ toL t = []
      rw [hl]
      intro e
      cases e
    have i1 : (0 : Int) < (t.size : Int) := by omega
    have i2 : (1 : Int) ≤ (t.size : Int) := by omega
    obtain ⟨ch, hch⟩ : ∃ ch, t[0] = ch := ⟨_, rfl⟩
    rw [hch] at hl
    have h92 : ¬ ch.toNat = 92 := fun e => HN.out (by rw [hl, List.head?_cons, byte_eq e])
    have CP := Lib.hid (fun W => plain_any ch W)
    cases hp : plainB ch with
    | false =>
      have HC : Hid (chL (toL t) = none) := by
        unfold Hid
        rw [hl, chL_cons, if_neg h92, hp, if_neg (by decide)]
      rw [hp] at CP
      clear hl h92 hp h1
      go_enter Tryd.func49, Tryd.ntmps49
      go_wp2_with (first
        | (go_at_call 45; refine (CP.out _).mono ?_; rintro e w5 ⟨rfl, hw⟩; rw [hw]; clear hw)
        | (go_at_call 39; refine HT.out.mono ?_; rintro e w2 ⟨rfl, r2, o2⟩; have R2 := Lib.hid r2; have O2 := Lib.hid o2; clear r2 o2; have c0 := R2.out.c0; have f0 := R2.out.free0))
      go_ret2
      exact .bad rfl R2.out O2.out (Nat.le_refl _) HC.out
    | true =>
      have HC : Hid (chL (toL t) = some (ch, (toL t).drop 1)) := by
        unfold Hid
        conv => lhs; rw [hl]
        rw [chL_cons, if_neg h92, hp, if_pos rfl]
      rw [hp] at CP
      clear hl h92 hp h1
      go_enter Tryd.func49, Tryd.ntmps49
      go_wp2_with (first
        | (go_at_call 45; refine (CP.out _).mono ?_; rintro e w5 ⟨rfl, hw⟩; rw [hw]; clear hw)
        | (go_at_call 39; refine HT.out.mono ?_; rintro e w2 ⟨rfl, r2, o2⟩; have R2 := Lib.hid r2; have O2 := Lib.hid o2; clear r2 o2; have c0 := R2.out.c0; have f0 := R2.out.free0))
      go_ret2
      exact .good rfl (R2.out.set _) (O2.out.set 0 _) (by rw [cut_size]; omega) HC.out (toL_cut t 1)
set_option maxRecDepth 1000000 in
set_option maxHeartbeats 4000000 in
theorem chr_slash (t : ByteArray) (hs : t.size ≤ 16777216) (hn : (toL t).head? = some (byte 92)) (R : Nat) (w : World) (hr : Rd w R t) :
    Calls Tryd.prog 49 #[.pointer (some ⟨R, 0, none⟩)] w (ChOut t R w) := by
  have HT := Lib.hid (takeZ 92 92 rfl (by omega) t hs R w hr)
  have e1 : headIs t (byte 92) = true := decide_eq_true hn
  obtain ⟨u, hu⟩ : ∃ u, t.extract 1 t.size = u := ⟨_, rfl⟩
  have e2 : after t (byte 92) = u := by unfold after; rw [if_pos hn, hu]
  rw [e1, e2] at HT
  have hul : toL u = (toL t).drop 1 := by rw [← hu]; exact toL_cut t 1
  have husz : u.size = t.size - 1 := by rw [← hu]; exact cut_size t 1
  have hch0 : chL (toL t) = slashL (toL u) := by
    rw [hul]
    cases hc : toL t with
    | nil => rw [hc] at hn; cases hn
    | cons a r =>
      rw [hc, List.head?_cons] at hn
      injection hn with hn
      rw [chL_cons, if_pos (by rw [hn]; exact byte_nat 92 (by omega))]
      rfl
  have HUS : Hid (u.size ≤ t.size) := by unfold Hid; omega
  have HCH := Lib.hid hch0
  clear e1 e2 hr hn hu husz hch0 hul
  by_cases h2 : u.size < 2
  · have d2 : decide ((u.size : Int) < 2) = true := decide_eq_true (by omega)
    have d2n : decide (u.size < 2) = true := decide_eq_true h2
    have HC : Hid (chL (toL t) = none) := by
      have hl := toL_len u
      unfold Hid
      rw [HCH.out]
      match hm : toL u with
      | [] => rfl
      | [d] => rfl
      | a :: b :: q => rw [hm] at hl; simp at hl; omega
    clear h2
    go_enter Tryd.func49, Tryd.ntmps49
    go_wp2_with (first
      | (go_at_call 39; refine HT.out.mono ?_; rintro e w2 ⟨rfl, r2, o2⟩; have R2 := Lib.hid r2; have O2 := Lib.hid o2; clear r2 o2; have c0 := R2.out.c0; have f0 := R2.out.free0))
    go_ret2
    exact .bad rfl R2.out O2.out HUS.out HC.out
  · have d2 : decide ((u.size : Int) < 2) = false := decide_eq_false (by omega)
    have d2n : decide (u.size < 2) = false := decide_eq_false h2
    have i1 : (0 : Int) < (u.size : Int) := by omega
    have i2 : (1 : Int) < (u.size : Int) := by omega
    have i3 : (2 : Int) ≤ (u.size : Int) := by omega
    obtain ⟨a, ha⟩ : ∃ a, u[0] = a := ⟨_, rfl⟩
    obtain ⟨b, hb⟩ : ∃ b, u[1] = b := ⟨_, rfl⟩
    have hl : toL u = a :: b :: (toL u).drop 2 := by
      have h0 := toL_get u 0 (by omega)
      have h1 := toL_get u 1 (by omega)
      rw [ha] at h0
      rw [hb] at h1
      have hlen := toL_len u
      match hm : toL u with
      | [] => rw [hm] at hlen; simp at hlen; omega
      | [d] => rw [hm] at hlen; simp at hlen; omega
      | x :: y :: q =>
        rw [hm] at h0 h1
        simp only [List.getElem?_cons_zero, List.getElem?_cons_succ, Option.some.injEq] at h0 h1
        rw [h0, h1]
        rfl
    have CA := Lib.hid (fun W => idx_any a W)
    have CB := Lib.hid (fun W => idx_any b W)
    by_cases ga : halfL a < 16
    · by_cases gb : halfL b < 16
      · have va : idxV a = (halfL a : Int) := by unfold idxV; rw [if_pos ga]
        have vb : idxV b = (halfL b : Int) := by unfold idxV; rw [if_pos gb]
        rw [va] at CA
        rw [vb] at CB
        obtain ⟨x, hx⟩ : ∃ x, halfL a = x := ⟨_, rfl⟩
        obtain ⟨y, hy⟩ : ∃ y, halfL b = y := ⟨_, rfl⟩
        rw [hx] at CA
        rw [hy] at CB
        have q1 : decide ((x : Int) < 0) = false := decide_eq_false (by omega)
        have q2 : decide ((y : Int) < 0) = false := decide_eq_false (by omega)
        have hx16 : x < 16 := by omega
        have hy16 : y < 16 := by omega
        have hbits := bits_hex ⟨x, hx16⟩ ⟨y, hy16⟩
        obtain ⟨v, hv⟩ : ∃ v, x * 16 + y = v := ⟨_, rfl⟩
        rw [hv] at hbits
        have hbits : bits BinOp.or IntKind.i64 ((x : Int) * 16) (y : Int) = (v : Int) := hbits
        have hv256 : v < 256 := by omega
        have hmod : (v : Int) % 256 = (v : Int) := by omega
        have CP := Lib.hid (fun W => plainZ v hv256 W)
        have HSL : Hid (chL (toL t) = if plainB (byte v) = false then some (byte v, (toL u).drop 2) else none) := by
          unfold Hid
          rw [HCH.out, hl, slashL_two, hx, hy, hv]
          by_cases hp : plainB (byte v) = false
          · rw [if_pos hp, if_pos ⟨hx16, hy16, hp⟩]
            rfl
          · rw [if_neg hp, if_neg (fun q => hp q.2.2)]
        have w16 : wrap64 ((x : Int) * 16) = (x : Int) * 16 := IntWalk.wrap64_in _ ⟨by omega, by omega⟩
        have HV := Lib.hid hv256
        clear va vb hx hy hv ga gb HCH hl hv256
        cases hp : plainB (byte v) with
        | true =>
          rw [hp] at CP HSL
          have HC : Hid (chL (toL t) = none) := HSL.out
          clear hp HSL
          go_enter Tryd.func49, Tryd.ntmps49
          go_upto_region 4 with (first
            | (go_at_call 39; refine HT.out.mono ?_; rintro e w2 ⟨rfl, r2, o2⟩; have R2 := Lib.hid r2; have O2 := Lib.hid o2; clear r2 o2; have c0 := R2.out.c0; have f0 := R2.out.free0))
          go_quiet (first | (go_at_call 54; refine Calls.quiet_of_same (CA.out _)) | (go_at_call 54; refine Calls.quiet_of_same (CB.out _)))
          clear c0 f0
          go_upto_region 5 with fail
          refine gen_world (fun Z => Rd Z R u ∧ Only R w Z) ⟨R2.out.below (bdrewN w2 nq) R2.out.lt, O2.out.trans (Only.of_below (bdrewN w2 nq) (Nat.le_refl _))⟩ ?_
          rintro Z ⟨rZ, oZ⟩
          have RZ := Lib.hid rZ
          have OZ := Lib.hid oZ
          have c0 := rZ.c0
          have f0 := rZ.free0
          clear rZ oZ
          go_wp2_with (first
            | (go_at_call 45; refine (CP.out _).mono ?_; rintro e w5 ⟨rfl, hw⟩; rw [hw]; clear hw))
          go_ret2
          exact .bad rfl RZ.out OZ.out HUS.out HC.out
        | false =>
          rw [hp] at CP HSL
          have HC : Hid (chL (toL t) = some (byte v, (toL u).drop 2)) := HSL.out
          clear hp HSL
          go_enter Tryd.func49, Tryd.ntmps49
          go_upto_region 4 with (first
            | (go_at_call 39; refine HT.out.mono ?_; rintro e w2 ⟨rfl, r2, o2⟩; have R2 := Lib.hid r2; have O2 := Lib.hid o2; clear r2 o2; have c0 := R2.out.c0; have f0 := R2.out.free0))
          go_quiet (first | (go_at_call 54; refine Calls.quiet_of_same (CA.out _)) | (go_at_call 54; refine Calls.quiet_of_same (CB.out _)))
          clear c0 f0
          go_upto_region 5 with fail
          refine gen_world (fun Z => Rd Z R u ∧ Only R w Z) ⟨R2.out.below (bdrewN w2 nq) R2.out.lt, O2.out.trans (Only.of_below (bdrewN w2 nq) (Nat.le_refl _))⟩ ?_
          rintro Z ⟨rZ, oZ⟩
          have RZ := Lib.hid rZ
          have OZ := Lib.hid oZ
          have c0 := rZ.c0
          have f0 := rZ.free0
          clear rZ oZ
          go_wp2_with (first
            | (go_at_call 45; refine (CP.out _).mono ?_; rintro e w5 ⟨rfl, hw⟩; rw [hw]; clear hw))
          go_ret2
          exact .good (by rw [byte_nat v HV.out]; rfl) (RZ.out.set _) (OZ.out.set 0 _) (by rw [cut_size]; have := HUS.out; omega) HC.out (toL_cut u 2)
      · have va : idxV a = (halfL a : Int) := by unfold idxV; rw [if_pos ga]
        have vb : idxV b = -1 := by unfold idxV; rw [if_neg gb]
        rw [va] at CA
        rw [vb] at CB
        have HC : Hid (chL (toL t) = none) := by
          unfold Hid
          rw [HCH.out, hl, slashL_two, if_neg (fun q => gb q.2.1)]
        obtain ⟨x, hx⟩ : ∃ x, halfL a = x := ⟨_, rfl⟩
        rw [hx] at CA
        have q1 : decide ((x : Int) < 0) = false := decide_eq_false (by omega)
        clear va vb hx ga gb HCH hl
        go_enter Tryd.func49, Tryd.ntmps49
        go_upto_region 4 with (first
          | (go_at_call 39; refine HT.out.mono ?_; rintro e w2 ⟨rfl, r2, o2⟩; have R2 := Lib.hid r2; have O2 := Lib.hid o2; clear r2 o2; have c0 := R2.out.c0; have f0 := R2.out.free0))
        go_quiet (first | (go_at_call 54; refine Calls.quiet_of_same (CA.out _)) | (go_at_call 54; refine Calls.quiet_of_same (CB.out _)))
        clear c0 f0
        go_upto_region 5 with fail
        refine gen_world (fun Z => Rd Z R u ∧ Only R w Z) ⟨R2.out.below (bdrewN w2 nq) R2.out.lt, O2.out.trans (Only.of_below (bdrewN w2 nq) (Nat.le_refl _))⟩ ?_
        rintro Z ⟨rZ, oZ⟩
        have RZ := Lib.hid rZ
        have OZ := Lib.hid oZ
        have c0 := rZ.c0
        have f0 := rZ.free0
        clear rZ oZ
        go_wp2_with fail
        go_ret2
        exact .bad rfl RZ.out OZ.out HUS.out HC.out
    · have va : idxV a = -1 := by unfold idxV; rw [if_neg ga]
      rw [va] at CA
      have HC : Hid (chL (toL t) = none) := by
        unfold Hid
        rw [HCH.out, hl, slashL_two, if_neg (fun q => ga q.1)]
      obtain ⟨y, hy⟩ : ∃ y, idxV b = y := ⟨_, rfl⟩
      rw [hy] at CB
      clear va hy ga HCH hl
      go_enter Tryd.func49, Tryd.ntmps49
      go_upto_region 4 with (first
        | (go_at_call 39; refine HT.out.mono ?_; rintro e w2 ⟨rfl, r2, o2⟩; have R2 := Lib.hid r2; have O2 := Lib.hid o2; clear r2 o2; have c0 := R2.out.c0; have f0 := R2.out.free0))
      go_quiet (first | (go_at_call 54; refine Calls.quiet_of_same (CA.out _)) | (go_at_call 54; refine Calls.quiet_of_same (CB.out _)))
      clear c0 f0
      go_upto_region 5 with fail
      refine gen_world (fun Z => Rd Z R u ∧ Only R w Z) ⟨R2.out.below (bdrewN w2 nq) R2.out.lt, O2.out.trans (Only.of_below (bdrewN w2 nq) (Nat.le_refl _))⟩ ?_
      rintro Z ⟨rZ, oZ⟩
      have RZ := Lib.hid rZ
      have OZ := Lib.hid oZ
      have c0 := rZ.c0
      have f0 := rZ.free0
      clear rZ oZ
      go_wp2_with fail
      go_ret2
      exact .bad rfl RZ.out OZ.out HUS.out HC.out
theorem character_any (t : ByteArray) (hs : t.size ≤ 16777216) (R : Nat) (w : World) (hr : Rd w R t) :
    Calls Tryd.prog 49 #[.pointer (some ⟨R, 0, none⟩)] w (ChOut t R w) := by
  by_cases h : (toL t).head? = some (byte 92)
  · exact chr_slash t hs h R w hr
  · exact chr_plain t hs h R w hr
end Go.Proofs.YtmandanmndmnhaaDoor.Tre
