/-
  The contracts of the document's own Bare and Decimal. Condition: the string has at most 2^50 bytes.
-/
import Derived.Test.YtiifjegjmhbhkaaDoorNumVal
import Derived.Test.YtiifjegjmhbhkaaDoorNumFol
import Derived.Test.YtiifjegjmhbhkaaDoorNumFma
import Derived.Lib.AppendStr
import Derived.Lib.BufferRead
namespace Go.Proofs.YtiifjegjmhbhkaaDoor.Num
open Go.RowKit Gly
open Go.Lib (decDigits)
set_option linter.unusedSimpArgs false
set_option linter.unusedVariables false

theorem infoByte : (Tryd.prog.info? 5).map (fun i => (i.zero, i.size, i.bytes)) = some (some (.int .u8 0), 1, 1) := by kernel_rfl
/-- A row of bytes in memory of the call's own. -/
def Bytes (w : World) (base : Nat) (v : Value) (l : List UInt8) : Prop := w.ownsRow base 5 1 v l.length (Lib.byteCells l)
theorem Bytes.one {w : World} {base : Nat} {v : Value} {l : List UInt8} {x : UInt8} (h : w.ownsRow base 5 1 v (l.length + 1) (Lib.byteCells l ++ [.int .u8 (x.toNat : Int)])) : Bytes w base v (l ++ [x]) := by
  unfold Bytes
  rw [List.length_append, Lib.byteCells_append]
  exact h
theorem Bytes.text {w : World} {base : Nat} {v : Value} {l : List UInt8} (h : Bytes w base v l) : (convert 46 9 v).run Tryd.prog w = .ok (.string ⟨l.toArray⟩) w := by
  have h2 := h.2
  rcases h2 with ⟨rfl, h0⟩ | ⟨g, cap, cur, rfl, _, hg, _, _, _, htk⟩
  · obtain rfl : l = [] := List.eq_nil_of_length_eq_zero h0
    exact Lib.run_convert_nil_bytes w _ _ _ 0 Tryd.underlying46 Tryd.underlying5 Tryd.underlying9
  · refine run_convert_bytes_back w _ _ _ _ cap l Tryd.underlying46 Tryd.underlying5 Tryd.underlying9 ?_
    exact Lib.bytes_of_row hg (by rw [Nat.mul_one] at htk; exact htk)

theorem refbare_any (s : ByteArray) (hs : s.size ≤ 1125899906842624) (h0 : 0 < s.size) (w : World) :
    Calls Tryd.prog 31 #[.string s] w fun e w' => e = .returned (.string ⟨(bareL s.data.toList).toArray⟩) ∧ w = w' := by
  have hq0 : Hid (bareL (rest s 0) = bareL s.data.toList) := rfl
  go_enter Tryd.func31, Tryd.ntmps31
  go_wp2_with fail
  go_loop [3] (fun i => ∃ p : Nat, i = .int .i64 (p : Int) ∧ bareL (rest s p) = bareL s.data.toList ∧ p < s.size) (fun i => s.size - (intOf i).toNat)
  case atStart => exact ⟨0, rfl, hq0.out, h0⟩
  case round =>
    obtain ⟨p, rfl, hq, hp⟩ := hrel
    have hcons := rest_cons s p hp
    have i2 : (p : Int) ≤ (s.size : Int) := by omega
    have hsl : Hid (s.extract p s.size = ⟨(rest s p).toArray⟩) := by
      apply bytes_ext
      rw [Lib.extract_to_end]
      rfl
    by_cases hp1 : p + 1 < s.size
    · have i1 : decide ((p : Int) + 1 < (s.size : Int)) = true := decide_eq_true (by omega)
      have hcons1 := rest_cons s (p + 1) hp1
      rw [hcons1] at hcons
      by_cases h48 : s[p].toNat = 48
      · have HQ : Hid (bareL (rest s (p + 1)) = bareL s.data.toList) := by
          rw [hcons, bareL, if_pos (UInt8.toNat_inj.1 h48), ← hcons1] at hq
          exact hq
        have x0 : (((s[p].toNat : Nat) : Int) == 48) = true := by rw [beq_iff_eq]; omega
        clear hq hcons hcons1 h48
        go_wp2_with fail
        go_round
        case rel => exact ⟨p + 1, by go_num, HQ.out, hp1⟩
        case measure => simp [intOf]; omega
      · have HQ : Hid (rest s p = bareL s.data.toList) := by
          rw [hcons, bareL, if_neg (fun e => h48 (by rw [e]; rfl)), ← hcons] at hq
          exact hq
        have x0 : (((s[p].toNat : Nat) : Int) == 48) = false := by rw [beq_eq_false_iff_ne]; omega
        clear hq hcons hcons1 h48
        go_wp2_with fail
        go_ret
        exact ⟨by rw [← HQ.out, ← hsl.out]; rfl, rfl⟩
    · have i1 : decide ((p : Int) + 1 < (s.size : Int)) = false := decide_eq_false (by omega)
      have HQ : Hid (rest s p = bareL s.data.toList) := by
        rw [hcons, rest_nil s (p + 1) (by omega), bareL] at hq
        rw [hcons, rest_nil s (p + 1) (by omega)]
        exact hq
      clear hq hcons
      go_wp2_with fail
      go_ret
      exact ⟨by rw [← HQ.out, ← hsl.out]; rfl, rfl⟩
theorem rdec_none (s : ByteArray) (C0 : Hid (∀ W, Calls Tryd.prog 26 #[.string s, .int .i64 11] W fun e' w' => e' = .returned (.bool false) ∧ W = w')) (w : World) :
    Calls Tryd.prog 17 #[.string s] w fun e w' => e = .returned (.tuple #[.string ⟨#[]⟩, .int .i64 40]) ∧ Below w.heap.size w w' := by
  go_enter Tryd.func17, Tryd.ntmps17
  go_wp2_with (go_at_call 26; refine (C0.out _).mono ?_; rintro e w1 ⟨rfl, rfl⟩)
  go_ret2
  exact ⟨rfl, Below.refl _ _⟩
theorem rdec_long (s : ByteArray) (hs : 1000 < s.size) (C0 : Hid (∀ W, Calls Tryd.prog 26 #[.string s, .int .i64 11] W fun e' w' => e' = .returned (.bool true) ∧ W = w')) (w : World) :
    Calls Tryd.prog 17 #[.string s] w fun e w' => e = .returned (.tuple #[.string ⟨#[]⟩, .int .i64 3]) ∧ Below w.heap.size w w' := by
  have hlong : decide ((1000 : Int) < (s.size : Int)) = true := decide_eq_true (by omega)
  go_enter Tryd.func17, Tryd.ntmps17
  go_wp2_with (go_at_call 26; refine (C0.out _).mono ?_; rintro e w1 ⟨rfl, rfl⟩)
  go_ret2
  exact ⟨rfl, Below.refl _ _⟩
theorem highs_cons (x : Nat) (r : List Nat) : highs (x :: r) = highs r ++ [UInt8.ofNat (48 + x)] := by
  unfold highs
  rw [List.map_cons, List.reverse_cons]
theorem highs_len (ds : List Nat) : (highs ds).length = ds.length := by
  unfold highs
  rw [List.length_reverse, List.length_map]
theorem mt_nil (b c : Nat) : mt b c [] = lowd c := by rw [mt]
theorem below_grown {w W W' : World} {v : Value} {xs : List Value} {n : Nat} {e : TypeId} {size : Nat} (hb : Below w.heap.size w W) (own : W.ownsRow w.heap.size e size v n xs) (gr : W.grownBy W' v.ownBlock) : Below w.heap.size w W' :=
  hb.grown gr hb.size (fun k hk => (World.ownsRow.lt own k hk).1)
theorem below_grown1 {w W W' : World} {v : Value} {xs : List Value} {n : Nat} {e : TypeId} {size : Nat} {o : Obj} (hb : Below w.heap.size w W) (own : W.ownsRow w.heap.size e size v n xs) (gr : (W.alloc o).grownBy W' v.ownBlock) : Below w.heap.size w W' :=
  (hb.alloc hb.size o).grown gr (by rw [World.size_alloc]; have := hb.size; omega) (fun k hk => (World.ownsRow.lt own k hk).1)

theorem ints_below' {w w' : World} {B g n cap : Nat} {xs : List Nat} (h : w.ownsRow B 3 1 (.slice (some ⟨g, 0, none⟩) n cap) n (intC xs)) (hb : Below w.heap.size w w') (k : Nat) (hk : k < n) (hx : k < xs.length) : w'.cell? ⟨g, k, none⟩ = some (.int .i64 ((xs[k] : Nat) : Int)) :=
  (hb.cell (p := ⟨g, k, none⟩) (World.ownsRow.lt h g rfl).2).trans (Ints.at' h k hk hx)

set_option maxHeartbeats 2000000 in
set_option maxRecDepth 100000 in
theorem rdec_int (s : ByteArray) (b g : Nat) (hs : s.size ≤ 1000) (hb : 2 ≤ b) (hb2 : b ≤ 16) (hg : g < s.size) (hall : (rest s g).all (isD b) = true)
    (C0 : Hid (∀ W, Calls Tryd.prog 26 #[.string s, .int .i64 11] W fun e' w' => e' = .returned (.bool true) ∧ W = w'))
    (C1 : Hid (∀ W, Calls Tryd.prog 27 #[.string s] W fun e' w' => e' = .returned (.tuple #[.int .i64 (b : Int), .int .i64 (g : Int)]) ∧ W = w')) (w : World) :
    Calls Tryd.prog 17 #[.string s] w fun e w' => e = .returned (.tuple #[.string ⟨(decDigits (valOf b 0 (rest s g))).toArray⟩, .int .i64 0]) ∧ Below w.heap.size w w' := by
  obtain ⟨i0, hi, hz0, hz1, hz2⟩ := info_parts infoInt
  obtain ⟨j0, hji, hy0, hy1, hy2⟩ := info_parts infoByte
  obtain ⟨V, hV⟩ : ∃ V, valOf b 0 (rest s g) = V := ⟨_, rfl⟩
  rw [hV]
  have HV := Lib.hid hV
  have HALL := Lib.hid hall
  have hlong : decide ((1000 : Int) < (s.size : Int)) = false := decide_eq_false (by omega)
  clear hV hall
  go_enter Tryd.func17, Tryd.ntmps17
  go_wp2_with (first | (go_at_call 26; refine (C0.out _).mono ?_; rintro e w1 ⟨rfl, rfl⟩) | (go_at_call 27; refine (C1.out _).mono ?_; rintro e w1 ⟨rfl, rfl⟩))
  go_loopw [5, 6] (fun iv nv wr => ∃ (p : Nat) (ds : List Nat), iv = .int .i64 (p : Int) ∧ Ints wr w.heap.size nv ds ∧ Below w.heap.size w wr ∧ (∀ x ∈ ds, x < 10) ∧ 1 ≤ ds.length ∧ ds.length ≤ 1 + 2 * p ∧ valOf b (dv ds) (rest s p) = V ∧ p ≤ s.size ∧ (rest s p).all (isD b) = true) (fun iv _ _ => s.size - (intOf iv).toNat)
  case atStart => exact ⟨g, [0], rfl, World.ownsRow_lit w #[.int .i64 0] 1 (Nat.le_refl _) (by decide) rfl, (Below.refl _ _).alloc (Nat.le_refl _) _, by simp, by simp, by simp, HV.out, by omega, HALL.out⟩
  case round =>
    obtain ⟨p, ds, rfl, hown, hbw, hd10, hlen1, hlen2, hq, hp0, ha⟩ := hrel
    have OWN := Lib.hid hown
    have BW := Lib.hid hbw
    have D10 := Lib.hid hd10
    have HQ := Lib.hid hq
    have HA := Lib.hid ha
    clear hown hbw hd10 hq ha
    rcases OWN.out.shape with ⟨-, h0⟩ | ⟨gg, cap, rfl, hgg, hgl⟩
    · rw [h0] at hlen1
      simp at hlen1
    have OWNR : Hid (wr.ownsRow w.heap.size 3 1 (.slice (some ⟨gg, 0, none⟩) ds.length cap) ds.length (intC ds)) := OWN.out
    obtain ⟨n, hn⟩ : ∃ n, ds.length = n := ⟨_, rfl⟩
    have HN := Lib.hid hn
    rw [hn] at OWNR hlen1 hlen2
    rw [hn] at OWN
    rw [hn]
    clear hn
    have hn0 : (0 : Int) ≤ (n : Int) - 1 := by omega
    by_cases hp : p < s.size
    · have hlt := (s[p]).toNat_lt
      have C : Hid (∀ W, Calls Tryd.prog 28 #[.int .i64 (s[p].toNat : Int), .int .i64 (b : Int)] W fun e w' => e = .returned (.int .i64 (dg b s[p])) ∧ W = w') := fun W => refdigit_any ((s[p].toNat : Nat) : Int) b (by omega) (by omega) W
      have hcons := rest_cons s p hp
      have hh := HA.out
      have hq := HQ.out
      rw [hcons, List.all_cons, Bool.and_eq_true] at hh
      rw [hcons, valOf] at hq
      have HTl : Hid ((rest s (p + 1)).all (isD b) = true) := hh.2
      have hdd : 0 ≤ dg b s[p] := of_decide_eq_true hh.1
      have hbd := dg_bd b s[p]
      clear hcons hh
      obtain ⟨dd, hdd2⟩ : ∃ dd : Nat, dg b s[p] = (dd : Int) := ⟨(dg b s[p]).toNat, by omega⟩
      rw [hdd2] at C hq hbd hdd
      rw [Int.toNat_natCast] at hq
      have hd15 : dd ≤ 15 := by omega
      obtain ⟨M, hM⟩ : ∃ M, mt b dd ds = M := ⟨_, rfl⟩
      have HM := Lib.hid hM
      have HQ2 : Hid (valOf b (dv M) (rest s (p + 1)) = V) := by unfold Hid; rw [← hM, dv_mt]; exact hq
      have hms := mt_small b hb2 ds dd hd15 D10.out
      rw [hM, HN.out] at hms
      have M10 := Lib.hid hms.1
      have hml := hms.2
      clear hq hbd hdd hdd2 hM hms
      go_wp2_with (go_at_call 28; refine (C.out _).mono ?_; rintro e w1 ⟨rfl, rfl⟩)
      go_loopw [7, 8] (fun cv kv W => ∃ (done r : List Nat) (c k : Nat), cv = .int .i64 (c : Int) ∧ kv = .int .i64 (k : Int) ∧ c ≤ 15 ∧ done.length = k ∧ k + r.length = n ∧ (∀ x ∈ r, x < 10) ∧ done ++ mt b c r = M ∧
        W.ownsRow w.heap.size 3 1 (.slice (some ⟨gg, 0, none⟩) n cap) n (intC (done ++ r)) ∧ wr.grownBy W (some gg)) (fun _ kv _ => n - (intOf kv).toNat)
      case atStart => exact ⟨[], ds, dd, 0, rfl, rfl, hd15, rfl, by rw [HN.out]; omega, D10.out, HM.out, OWNR.out, World.grownBy.refl _ _⟩
      case round =>
        obtain ⟨done, r, c, k, rfl, rfl, hc, hk, hlen, hr, hq, hown, hgr⟩ := hrel
        have HQ3 := Lib.hid hq
        have HR := Lib.hid hr
        have HK := Lib.hid hk
        have HOWN := Lib.hid hown
        have HGR := Lib.hid hgr
        clear hq hr hown hgr hk
        cases r with
        | nil =>
          obtain rfl : k = n := by simpa using hlen
          have hq := HQ3.out
          rw [mt_nil] at hq
          have hown := HOWN.out
          rw [List.append_nil] at hown
          have HO : Hid (Ints wr w.heap.size (.slice (some ⟨gg, 0, none⟩) k cap) done) := by
            unfold Hid Ints
            rw [HK.out]
            exact hown
          have HB := Lib.hid (below_grown BW.out OWNR.out HGR.out)
          have HD := Lib.hid hq
          clear hown hlen hq
          go_wp2_with fail
          go_loopw [6, 7] (fun nv cv W => ∃ (acc : List Nat) (c : Nat), cv = .int .i64 (c : Int) ∧ Ints W w.heap.size nv acc ∧ acc ++ lowd c = M ∧ Below w.heap.size w W ∧ c ≤ 15) (fun _ cv _ => (intOf cv).toNat)
          case atStart => exact ⟨done, c, rfl, HO.out, HD.out, HB.out, hc⟩
          case round =>
            obtain ⟨acc, c, rfl, hown, hq, hbw, hc⟩ := hrel
            have HO2 := Lib.hid hown
            have HB2 := Lib.hid hbw
            have hal := congrArg List.length hq
            rw [List.length_append] at hal
            have HD2 := Lib.hid hq
            clear hown hbw hq
            by_cases h0 : c = 0
            · subst h0
              have HE : Hid (acc = M) := by
                have := HD2.out
                rw [lowd_zero, List.append_nil] at this
                exact this
              clear hal
              go_wp2_with fail
              go_roundw
              case rel =>
                have hO := HO2.out
                rw [HE.out] at hO
                have h1 : 1 ≤ M.length := by
                  have h9 := HM.out
                  cases ds with
                  | nil => have := HN.out; simp at this; omega
                  | cons x r => rw [← h9, mt, List.length_cons]; omega
                exact ⟨p + 1, M, by go_num, hO, HB2.out, M10.out, h1, by omega, HQ2.out, by omega, HTl.out⟩
              case measure => simp [intOf]; omega
            · have hcp : decide (0 < c) = true := decide_eq_true (by omega)
              have hlp := HD2.out
              rw [lowd_pos c (by omega)] at hlp
              have HD3 : Hid ((acc ++ [c % 10]) ++ lowd (c / 10) = M) := by
                unfold Hid
                rw [List.append_assoc]
                exact hlp
              have hal2 : acc.length ≤ 3000 := by omega
              clear hlp hal
              go_wp2_with (first | (at_builtin; refine wpList_append_own _ rfl _ _ 42 rfl w.heap.size 3 i0 (.int .i64 0) 1 8 Tryd.underlying42 hi hz0 hz1 hz2 rfl (by decide) _ _ _ rfl (HO2.out.alloc _) ⟨wr.heap.size, 0, none⟩ 1 1 [.int .i64 ((c : Int) % 10)] rfl rfl ?k1 ?k2 ?k3 ?k4 ?k5 ?_))
              case k1 =>
                intro j u hj
                match j, hj with
                | 0, hj => simp at hj; subst hj; simp [Addr.add]
              case k2 => intro u hu; simp at hu; subst hu; rfl
              case k3 => unfold maxLen; omega
              case k4 => omega
              case k5 => have := HB2.out.size; simp; omega
              intro v' w3 hown' hgrow _
              have OWN3 : Hid (Ints w3 w.heap.size v' (acc ++ [c % 10])) := Ints.push hown'
              have BW3 := Lib.hid (below_grown1 HB2.out HO2.out hgrow)
              clear hown' hgrow
              go_wp2_with fail
              go_roundw
              case rel => exact ⟨acc ++ [c % 10], c / 10, rfl, OWN3.out, HD3.out, BW3.out, by omega⟩
              case measure => simp [intOf]; omega
        | cons x r =>
          have hx := HR.out x (by simp)
          rw [List.length_cons] at hlen
          have hkn : k < n := by omega
          have hxb : x * b ≤ 9 * 16 := Nat.mul_le_mul (by omega) hb2
          have hce : Hid (wr.cell? ⟨gg, k, none⟩ = some (.int .i64 (x : Int))) := by
            have hd := HK.out
            have hc := Ints.at' HOWN.out k hkn (by simp; omega)
            unfold Hid
            rw [hc]
            simp [← hd]
          have hcell := hce.out
          have hfz := World.ownsRow.frozenAt HOWN.out k
          have hm1 : ((x : Int) * (b : Int)) = ((x * b : Nat) : Int) := (Int.natCast_mul x b).symm
          have hm2 : (x : Int) * (b : Int) ≤ 144 := by omega
          have hm3 : 0 ≤ (x : Int) * (b : Int) := by omega
          have HMM := Lib.hid hm1
          clear hm1 hce
          go_wp2_with fail
          go_roundw
          case rel =>
            have hm := HMM.out
            have hq := HQ3.out
            rw [mt] at hq
            have hs := ints_set (y := (c + x * b) % 10) HOWN.out HGR.out
            rw [HK.out] at hs
            have e1 : (((c : Int) + (x : Int) * (b : Int)) / 10) = (((c + x * b) / 10 : Nat) : Int) := by rw [hm]; rfl
            have e2 : (((c : Int) + (x : Int) * (b : Int)) % 10) = (((c + x * b) % 10 : Nat) : Int) := by rw [hm]; rfl
            refine ⟨done ++ [(c + x * b) % 10], r, (c + x * b) / 10, k + 1, by rw [e1], by go_num, by omega, by rw [List.length_append, HK.out]; rfl, by omega, fun y hy => HR.out y (by simp [hy]), by rw [List.append_assoc]; exact hq, ?_⟩
            rw [e2]
            exact hs
          case measure => simp [intOf]; omega
    · have HV2 : Hid (dv ds = V) := by
        have hq := HQ.out
        rw [rest_nil s p (by omega)] at hq
        exact hq
      go_wp2_with fail
      go_loopw [9, 10] (fun bv kv W => ∃ (j : Nat) (k : Int), kv = .int .i64 k ∧ k = (j : Int) - 1 ∧ j ≤ n ∧ Bytes W wr.heap.size bv (highs (ds.drop j)) ∧ Below wr.heap.size wr W) (fun _ kv _ => (intOf kv + 1).toNat)
      case atStart =>
        refine ⟨n, _, rfl, rfl, Nat.le_refl _, ?_, Below.refl _ _⟩
        rw [← HN.out, List.drop_length]
        exact World.ownsRow_nil _ _ _ _
      case round =>
        obtain ⟨j, k, rfl, hk, hj, hby, hbl⟩ := hrel
        have HBY := Lib.hid hby
        have HBL := Lib.hid hbl
        clear hby hbl
        cases j with
        | zero =>
          obtain rfl : k = -1 := by omega
          clear hk
          have hcv := HBY.out.text
          rw [List.drop_zero] at hcv
          have B := Lib.hid (fun W => refbare_any ⟨(highs ds).toArray⟩ (by rw [Lib.size_eq]; show (highs ds).length ≤ _; rw [highs_len, HN.out]; omega) (by rw [Lib.size_eq]; show 0 < (highs ds).length; rw [highs_len, HN.out]; omega) W)
          have HF : Hid (bareL (⟨(highs ds).toArray⟩ : ByteArray).data.toList = decDigits V) := by
            obtain ⟨h1, h2⟩ := highs_val ds D10.out
            have h3 : highs ds ≠ [] := by
              intro h4
              have := congrArg List.length h4
              rw [highs_len, HN.out] at this
              simp at this
              omega
            have := bare_dec (highs ds) h3 h1
            rw [h2, HV2.out] at this
            exact this
          rw [HF.out] at B
          go_wp2_with fail
          refine (B.out _).mono ?_
          rintro e W5 ⟨rfl, rfl⟩
          go_wp2_with fail
          go_ret2
          exact ⟨rfl, BW.out.trans (HBL.out.mono BW.out.size)⟩
        | succ j =>
          obtain rfl : k = (j : Int) := by omega
          clear hk
          have hjn : j < n := by omega
          have hjl : j < ds.length := by rw [HN.out]; exact hjn
          have hx10 := D10.out ds[j] (List.getElem_mem hjl)
          have HDR : Hid (highs (ds.drop j) = highs (ds.drop (j + 1)) ++ [UInt8.ofNat (48 + ds[j])]) := by
            unfold Hid
            rw [List.drop_eq_getElem_cons hjl, highs_cons]
          have hcell0 : Hid (wr.cell? ⟨gg, j, none⟩ = some (.int .i64 ((ds[j] : Nat) : Int))) := ints_below' OWNR.out HBL.out j hjn hjl
          generalize ds[j] = x at hx10 HDR hcell0
          have hcell := hcell0.out
          have hlen3 : Hid ((highs (ds.drop (j + 1))).length ≤ n) := by
            unfold Hid
            rw [highs_len, List.length_drop, HN.out]
            omega
          have HU : Hid ((((UInt8.ofNat (48 + x)).toNat : Nat) : Int) = 48 + (x : Int)) := by
            unfold Hid
            rw [UInt8.toNat_ofNat', Nat.mod_eq_of_lt (by omega)]
            rfl
          have hl3 := hlen3.out
          go_wp2_with (first | (at_builtin; refine wpList_append_own _ rfl _ _ 46 rfl _ 5 j0 (.int .u8 0) 1 1 Tryd.underlying46 hji hy0 hy1 hy2 rfl (by decide) _ _ _ rfl (HBY.out.alloc _) ⟨wr.heap.size, 0, none⟩ 1 1 [.int .u8 (48 + (x : Int))] rfl rfl ?k1 ?k2 ?k3 ?k4 ?k5 ?_))
          case k1 =>
            intro j u hj
            match j, hj with
            | 0, hj => simp at hj; subst hj; simp [Addr.add]
          case k2 => intro u hu; simp at hu; subst hu; rfl
          case k3 => unfold maxLen; omega
          case k4 => omega
          case k5 => have := HBL.out.size; simp; omega
          intro v' w3 hown' hgrow _
          rw [← HU.out] at hown'
          have OWN3 := Lib.hid (Bytes.one hown')
          have BW3 := Lib.hid (below_grown1 HBL.out HBY.out hgrow)
          clear hown' hgrow
          go_wp2_with fail
          go_roundw
          case rel => exact ⟨j, _, rfl, by omega, by omega, by rw [HDR.out]; exact OWN3.out, BW3.out⟩
          case measure => simp [intOf]
theorem refDecimal_any (s : ByteArray) (hs : s.size ≤ 1125899906842624) (w : World) :
    Calls Tryd.prog 17 #[.string s] w fun e w' => e = .returned (.tuple #[.string ⟨(decS s.data.toList).1.toArray⟩, .int .i64 (decS s.data.toList).2]) ∧ Below w.heap.size w w' := by
  have c0 := fun W => refwhole_any s 11 (.inl rfl) hs W
  unfold decS
  by_cases h : (wholeL s.data.toList).kind = 11
  · rw [if_pos h, ← Lib.size_eq]
    rw [decide_eq_true h] at c0
    by_cases hl : 1000 < s.size
    · rw [if_pos hl]
      exact rdec_long s hl c0 w
    · rw [if_neg hl]
      obtain ⟨h1, h2, h3, h4, h5⟩ := whole_int s.data.toList h
      rw [← Lib.size_eq] at h3
      have c1 := fun W => refparts_any s W
      unfold partsL at c1
      rw [h5] at c1
      exact rdec_int s _ _ (by omega) (by omega) (by omega) h3 h4 c0 c1 w
  · rw [if_neg h]
    rw [decide_eq_false h] at c0
    exact rdec_none s c0 w
end Go.Proofs.YtiifjegjmhbhkaaDoor.Num
