/-
  The program's reader: leaves. Conditions: texts of at most 2^24 bytes.
-/
import Derived.Test.YtmandanmndmnhaaDoorTreHed
namespace Go.Proofs.YtmandanmndmnhaaDoor.Tre
open Tks Go.RowKit
open Qt (Bld)
set_option linter.unusedSimpArgs false
set_option linter.unusedVariables false

def LfOut (t : ByteArray) (R : Nat) (w : World) (e : Ending) (w' : World) : Prop :=
  ∃ (h : Hd) (E : Int) (t' : ByteArray), e = .returned (.tuple #[ndV h (.slice none 0 0), .int .i64 E]) ∧ Rd w' R t' ∧ Only R w w' ∧ t'.size ≤ t.size ∧
    (match leafR (numL (toL t)) ((toL t).drop (numE (toL t))) with
     | .error _ => E = 100
     | .ok (h', k', q) => E = 0 ∧ h = h' ∧ k' = .nil ∧ toL t' = q)
theorem LfOut.bad {t : ByteArray} {R : Nat} {w w' : World} {e : Ending} {h : Hd} {t' : ByteArray} {x : Int} (he : e = .returned (.tuple #[ndV h (.slice none 0 0), .int .i64 100])) (hr : Rd w' R t') (ho : Only R w w') (hs : t'.size ≤ t.size) (hl : leafR (numL (toL t)) ((toL t).drop (numE (toL t))) = .error x) : LfOut t R w e w' :=
  ⟨h, 100, t', he, hr, ho, hs, by rw [hl]⟩
theorem LfOut.good {t : ByteArray} {R : Nat} {w w' : World} {e : Ending} {h : Hd} {t' : ByteArray} {q : List UInt8} (he : e = .returned (.tuple #[ndV h (.slice none 0 0), .int .i64 0])) (hr : Rd w' R t') (ho : Only R w w') (hs : t'.size ≤ t.size) (hl : leafR (numL (toL t)) ((toL t).drop (numE (toL t))) = .ok (h, .nil, q)) (hq : toL t' = q) : LfOut t R w e w' :=
  ⟨h, 0, t', he, hr, ho, hs, by rw [hl]; exact ⟨rfl, rfl, rfl, hq⟩⟩
theorem Only.wrote {R B b : Nat} {w w1 w2 : World} (h : Only R w w1) (k : Wrote B b w1 w2) (hB : w.heap.size ≤ B) : Only R w w2 :=
  ⟨k.bel.os.trans h.os, k.bel.tape.trans h.tape, k.bel.output.trans h.output, Nat.le_trans h.size k.size, fun j hj hs => (k.bel.block j (by omega)).trans (h.block j hj hs)⟩
theorem Only.bld {R B b : Nat} {l : List UInt8} {w w' : World} {t : ByteArray} (h : Only R w w') (hr : Rd w R t) (hb : Bld B b l w) : Bld B b l w' := by
  refine Qt.builder_kept hb (fun k c t' fz hk ht => ?_)
  have hne : k ≠ R := fun e => by
    subst e
    rw [show w.heap[k]? = _ from hr] at hk
    injection hk with hk
    injection hk with _ e2 _
    rcases ht with q | q
    · exact absurd (e2.trans q) (by decide)
    · exact absurd (e2.trans q) (by decide)
  exact (h.block k (lt_of_block hk) hne).trans hk
theorem Only.belowB {R B : Nat} {w w1 w2 : World} (h : Only R w w1) (k : Below B w1 w2) (hB : w.heap.size ≤ B) : Only R w w2 :=
  ⟨k.os.trans h.os, k.tape.trans h.tape, k.output.trans h.output, Nat.le_trans h.size k.size, fun j hj hs => (k.block j (by omega)).trans (h.block j hj hs)⟩
theorem preT_cons (acc : List UInt8) (c : UInt8) (o : Option (List UInt8 × List UInt8)) : (consT c o).map (fun p => (acc ++ p.1, p.2)) = o.map (fun p => ((acc ++ [c]) ++ p.1, p.2)) := by
  cases o with
  | none => rfl
  | some p =>
    show some (acc ++ c :: p.1, p.2) = some ((acc ++ [c]) ++ p.1, p.2)
    rw [List.append_assoc]
    rfl
def rdSize (w : World) (R : Nat) : Nat := match w.cell? ⟨R, 0, none⟩ with
  | some (.string t) => t.size
  | _ => 0
theorem Rd.rdSize {w : World} {R : Nat} {t : ByteArray} (h : Rd w R t) : Tre.rdSize w R = t.size := by
  unfold Tre.rdSize
  rw [h.c0]
def leafT (m0 : Int) (o : Option (List UInt8 × List UInt8)) : Except Int (Hd × Fo × List UInt8) :=
  match o with
  | none => .error (-1)
  | some (t, q) => .ok (hd0 1 m0 ⟨t.toArray⟩, .nil, q)
set_option maxRecDepth 1000000 in
set_option maxHeartbeats 8000000 in
theorem leafp_any (t : ByteArray) (hs : t.size ≤ 16777216) (R : Nat) (w : World) (hr : Rd w R t) :
    Calls Tryd.prog 40 #[.pointer (some ⟨R, 0, none⟩)] w (LfOut t R w) := by
  have HRR := Lib.hid hr
  have HS := Lib.hid hs
  have n1 : ¬ R = w.heap.size := by have := hr.lt; omega
  have n2 : ¬ w.heap.size = R := fun e => n1 e.symm
  have CN := Lib.hid (fun (W : World) (hW : Rd W R t) => number_any t hs 22 (by omega) (by omega) R W hW)
  unfold NumOut at CN
  clear hr hs
  go_enter Tryd.func40, Tryd.ntmps40
  go_upto_region 1 with fail
  refine gen_world (fun X => Below w.heap.size w X ∧ Lies X w.heap.size z6 ∧ X.heap.size = w.heap.size + 1) ⟨below_one w _, Lies.new w _, World.size_alloc _ _⟩ ?_
  rintro X ⟨bX, lX, zX⟩
  have LX : Hid (Lies X w.heap.size (ndO ⟨0, 0, ⟨#[]⟩, 0, 0⟩ (.slice none 0 0))) := lX
  have OX : Hid (Only R w X) := Only.of_below bX (Nat.le_refl _)
  have CX := Lib.hid (CN.out X (HRR.out.below bX HRR.out.lt))
  have SX : Hid (w.heap.size < X.heap.size) := by unfold Hid; omega
  clear bX lX zX CN
  go_upto_region 2 with (first
    | (go_at_call 48; refine CX.out.mono ?_; rintro e w2 ⟨v2, t2, rfl, r2, o2, s2, k2⟩; have R2 := Lib.hid r2; have L2 := Lib.hid (o2.lies LX.out n2); have O2 := Lib.hid (OX.out.trans o2); have T2 := Lib.hid s2; have K2 := Lib.hid k2; have S2 : Hid (w.heap.size < w2.heap.size) := (Nat.lt_of_lt_of_le SX.out o2.size); clear r2 o2 s2 k2))
  obtain ⟨⟨c0, c1, c2, c3, c4, c5⟩, f0, f1, f2, f3, f4, f5⟩ := L2.out.nodef
  cases hok : numOk (toL t) 22 with
  | false =>
    have HL : Hid (leafR (numL (toL t)) ((toL t).drop (numE (toL t))) = .error (-1)) := by
      unfold numOk at hok
      have := of_decide_eq_false hok
      unfold Hid leafR
      rw [if_pos (by omega)]
    go_wp2_with fail
    refine bodyPost_ret (res_node Tryd.results40 rfl (Lies.all6 L2.out ⟨0, 0, ⟨#[]⟩, 0, 0⟩ (.slice none 0 0))) rfl ?_
    exact .bad rfl (R2.out.set6 n1 _ _ _ _ _ _) (O2.out.fresh (Nat.le_refl _) _ _ _ _ _ _) T2.out HL.out
  | true =>
    obtain ⟨hv, ht2⟩ := K2.out hok
    subst hv
    unfold numOk at hok
    have hrange := of_decide_eq_true hok
    have HSZ : Hid (t2.size ≤ 16777216) := Nat.le_trans T2.out HS.out
    obtain ⟨m0, hm0⟩ : ∃ m0, numL (toL t) = m0 := ⟨_, rfl⟩
    have HL0 : Hid (leafR (numL (toL t)) ((toL t).drop (numE (toL t))) = if (toL t2).head? = some (byte 34) then (match txtL ((toL t2).drop 1) with
        | none => .error (-1)
        | some (t, q) => .ok (hd0 1 m0 ⟨t.toArray⟩, .nil, q)) else .error (-1)) := by
      unfold Hid leafR
      rw [if_neg (by omega), ← ht2, hm0]
      rfl
    rw [hm0]
    clear ht2 K2 hok hrange hm0
    have CT := Lib.hid (takeZ 34 34 rfl (by omega) t2 HSZ.out R w2 R2.out)
    by_cases h34 : (toL t2).head? = some (byte 34)
    · have e1 : headIs t2 (byte 34) = true := decide_eq_true h34
      obtain ⟨t3, ht3⟩ : ∃ t3, after t2 (byte 34) = t3 := ⟨_, rfl⟩
      have hl3 : toL t3 = (toL t2).drop 1 := by rw [← ht3, toL_after, if_pos h34]
      have hs3 : t3.size ≤ t2.size := by rw [← ht3]; exact after_size t2 _
      rw [e1, ht3] at CT
      have HL : Hid (leafR (numL (toL t)) ((toL t).drop (numE (toL t))) = leafT m0 (txtL (toL t3))) := by
        unfold Hid
        rw [HL0.out, if_pos h34, hl3]
        rfl
      have HT3 := Lib.hid hs3
      clear e1 h34 hl3 hs3 ht3 HL0
      go_upto_region 4 with (first
        | (go_at_call 39; refine CT.out.mono ?_; rintro e w3 ⟨rfl, r3, o3⟩; have R3 := Lib.hid r3; have O3 := Lib.hid (O2.out.trans o3); have L3 := Lib.hid (o3.lies L2.out n2); have S3 : Hid (w.heap.size < w3.heap.size) := Nat.lt_of_lt_of_le S2.out o3.size; clear r3 o3))
      clear c0 c1 c2 c3 c4 c5 f0 f1 f2 f3 f4 f5 R2 L2 O2 S2 CT
      go_wp2_with fail
      generalize hSB : w3.heap.size = SB at *
      refine gen_world (fun Y => Rd Y R t3 ∧ Only R w Y ∧ Lies Y w.heap.size (ndO ⟨0, 0, ⟨#[]⟩, 0, 0⟩ (.slice none 0 0)) ∧ Bld SB SB [] Y ∧ SB + 1 = Y.heap.size) ⟨R3.out.below (below_one w3 _) R3.out.lt, O3.out.trans (Only.of_below (below_one w3 _) (Nat.le_refl _)), L3.out.alloc _, by rw [← hSB]; exact bld_new w3, by rw [World.size_alloc, hSB]⟩ ?_
      rintro Y ⟨rY, oY, lY, dY, zY⟩
      have n3 : ¬ R = SB := by have := R3.out.lt; omega
      have n4 : ¬ w.heap.size = SB := by have := S3.out; omega
      have HSB : Hid (w.heap.size ≤ SB) := by have := S3.out; unfold Hid; omega
      have RY := Lib.hid rY
      have OY := Lib.hid oY
      have LY := Lib.hid lY
      have DY := Lib.hid dY
      have ZY := Lib.hid zY
      clear rY oY lY dY zY hSB R3 O3 L3 S3
      go_loopw [] (fun wr => ∃ (tr : ByteArray) (acc : List UInt8), Hid (Rd wr R tr) ∧ Hid (Only R w wr) ∧ Hid (Lies wr w.heap.size (ndO ⟨0, 0, ⟨#[]⟩, 0, 0⟩ (.slice none 0 0))) ∧ Hid (Bld SB SB acc wr) ∧ Hid (txtL (toL t3) = (txtL (toL tr)).map (fun p => (acc ++ p.1, p.2))) ∧ Hid (tr.size ≤ t.size ∧ acc.length + tr.size ≤ 16777216 ∧ SB < wr.heap.size)) (fun wr => rdSize wr R)
      case atStart => exact ⟨t3, [], RY.out, OY.out, LY.out, DY.out, by unfold Hid; cases txtL (toL t3) <;> rfl, ⟨Nat.le_trans HT3.out T2.out, by have := HT3.out; have := HSZ.out; simp only [List.length_nil]; omega, by have := ZY.out; omega⟩⟩
      case round =>
        obtain ⟨tr, acc, RR, OR, LR, DR, HTX, HSR⟩ := hrel
        clear RY OY LY DY ZY
        have hs16 : tr.size ≤ 16777216 := by have := HSR.out; omega
        have CT := Lib.hid (takeZ 34 34 rfl (by omega) tr hs16 R wr RR.out)
        by_cases h34 : (toL tr).head? = some (byte 34)
        · have e1 : headIs tr (byte 34) = true := decide_eq_true h34
          obtain ⟨t5, ht5⟩ : ∃ t5, after tr (byte 34) = t5 := ⟨_, rfl⟩
          have hl5 : toL tr = byte 34 :: toL t5 := by
            rw [← ht5, toL_after, if_pos h34]
            cases hm : toL tr with
            | nil => rw [hm] at h34; cases h34
            | cons x r =>
              rw [hm, List.head?_cons] at h34
              injection h34 with h34
              rw [h34]
              rfl
          have HG : Hid (leafR (numL (toL t)) ((toL t).drop (numE (toL t))) = .ok (hd0 1 m0 ⟨acc.toArray⟩, .nil, toL t5)) := by
            unfold Hid
            rw [HL.out, HTX.out, hl5, txt_quote]
            simp [leafT]
          have HS5 : Hid (t5.size ≤ t.size) := by
            rw [← ht5]
            exact Nat.le_trans (after_size tr _) HSR.out.1
          rw [e1, ht5] at CT
          clear e1 h34 ht5 hl5 HTX HL hs16
          go_upto_region 10 with (first
            | (go_at_call 39; refine CT.out.mono ?_; rintro e w5 ⟨rfl, r5, o5⟩; have R5 := Lib.hid r5; have O5 := Lib.hid (OR.out.trans o5); have L5 := Lib.hid (o5.lies LR.out n2); have D5 := Lib.hid (o5.bld RR.out DR.out); have S5 : Hid (SB ≤ w5.heap.size) := (by have := HSR.out.2.2; have := o5.size; unfold Hid; omega); clear r5 o5))
          obtain ⟨CS⟩ : Nonempty (Hid (∀ W, W = w5 → Calls Tryd.prog 35 #[.pointer (some ⟨SB, 0, none⟩)] W fun e w' => e = .returned (.string ⟨acc.toArray⟩) ∧ Below SB w5 w')) := ⟨fun W hW => by subst hW; exact Qt.bstr_any SB SB acc W D5.out S5.out⟩
          go_cut [2, 3] from 9 (fun v2 v3 wx => v2 = .pointer (some ⟨w.heap.size, 0, none⟩) ∧ v3 = .int .i64 0 ∧ Rd wx R t5 ∧ Only R w wx ∧ Lies wx w.heap.size (ndO (hd0 1 m0 ⟨acc.toArray⟩) (.slice none 0 0)))
          case first =>
            go_wp2_with (first
              | (go_at_call 35; refine (CS.out w5 rfl).mono ?_; rintro e w6 ⟨rfl, b6⟩; have R6 := Lib.hid (R5.out.below b6 (by have := HRR.out.lt; have := HSB.out; omega)); have L6 := Lib.hid (L5.out.below b6 (by have := HSB.out; omega)); have O6 : Hid (Only R w w6) := (Only.belowB O5.out b6 HSB.out); clear b6; obtain ⟨⟨c0, c1, c2, c3, c4, c5⟩, f0, f1, f2, f3, f4, f5⟩ := L6.out.nodef))
            go_meet
            case rel => exact ⟨rfl, rfl, R6.out.set6 n1 _ _ _ _ _ _, O6.out.fresh (Nat.le_refl _) _ _ _ _ _ _, Lies.all6 L6.out (hd0 1 m0 ⟨acc.toArray⟩) _⟩
          case rest =>
            obtain ⟨rfl, rfl, r6, o6, l6⟩ := hcut
            repeat go_step
            refine bodyPost_ret (res_node Tryd.results40 rfl l6) rfl ?_
            exact .good rfl r6 o6 HS5.out HG.out rfl
        · have e1 : headIs tr (byte 34) = false := decide_eq_false h34
          have e2 : after tr (byte 34) = tr := by unfold after; rw [if_neg h34]
          rw [e1, e2] at CT
          have htx := txt_ch h34
          have CC := Lib.hid (fun (W : World) (hW : Rd W R tr) => character_any tr hs16 R W hW)
          clear e1 e2 h34 hs16
          cases hc : chL (toL tr) with
          | none =>
            rw [hc] at htx
            have C5 : Hid (∀ W, Rd W R tr → Calls Tryd.prog 49 #[.pointer (some ⟨R, 0, none⟩)] W fun e w' => ∃ (v : Int) (t' : ByteArray), e = .returned (.tuple #[.int .u8 v, .bool false]) ∧ Rd w' R t' ∧ Only R W w' ∧ t'.size ≤ tr.size) := by
              intro W hW
              refine (CC.out W hW).mono ?_
              rintro e w' ⟨v, ok, t', rfl, h1, h2, h3, h4⟩
              rw [hc] at h4
              subst h4
              exact ⟨v, t', rfl, h1, h2, h3⟩
            have HG : Hid (leafR (numL (toL t)) ((toL t).drop (numE (toL t))) = .error (-1)) := by
              unfold Hid
              rw [HL.out, HTX.out, htx]
              rfl
            clear hc htx CC HTX HL
            go_upto_region 7 with (first
              | (go_at_call 39; refine CT.out.mono ?_; rintro e w5 ⟨rfl, r5, o5⟩; have R5 := Lib.hid r5; have O5 := Lib.hid (OR.out.trans o5); have L5 := Lib.hid (o5.lies LR.out n2); clear r5 o5)
              | (go_at_call 49; refine (C5.out w5 R5.out).mono ?_; rintro e w6 ⟨v6, t6, rfl, r6, o6, s6⟩; have R6 := Lib.hid r6; have O6 := Lib.hid (O5.out.trans o6); have L6 := Lib.hid (o6.lies L5.out n2); have T6 := Lib.hid (Nat.le_trans s6 HSR.out.1); clear r6 o6 s6))
            obtain ⟨⟨c0, c1, c2, c3, c4, c5⟩, f0, f1, f2, f3, f4, f5⟩ := L6.out.nodef
            go_upto_region 8 with fail
            go_cut [2, 3] from 9 to 34 (fun v2 v3 wx => v2 = .pointer (some ⟨w.heap.size, 0, none⟩) ∧ v3 = .int .i64 100 ∧ Rd wx R t6 ∧ Only R w wx ∧ Lies wx w.heap.size (ndO ⟨0, 0, ⟨#[]⟩, 0, 0⟩ (.slice none 0 0)))
            case first =>
              go_wp2_with fail
              go_meet
              case rel => exact ⟨rfl, rfl, R6.out.set6 n1 _ _ _ _ _ _, O6.out.fresh (Nat.le_refl _) _ _ _ _ _ _, Lies.all6 L6.out ⟨0, 0, ⟨#[]⟩, 0, 0⟩ _⟩
            case rest =>
              obtain ⟨rfl, rfl, r7, o7, l7⟩ := hcut
              repeat go_step
              refine bodyPost_ret (res_node Tryd.results40 rfl l7) rfl ?_
              exact .bad rfl r7 o7 T6.out HG.out
          | some cq =>
            obtain ⟨ch, q⟩ := cq
            rw [hc] at htx
            have hsh := ch_short hc
            have C5 : Hid (∀ W, Rd W R tr → Calls Tryd.prog 49 #[.pointer (some ⟨R, 0, none⟩)] W fun e w' => ∃ (t' : ByteArray), e = .returned (.tuple #[.int .u8 (ch.toNat : Int), .bool true]) ∧ Rd w' R t' ∧ Only R W w' ∧ toL t' = q) := by
              intro W hW
              refine (CC.out W hW).mono ?_
              rintro e w' ⟨v, ok, t', rfl, h1, h2, h3, h4⟩
              rw [hc] at h4
              obtain ⟨rfl, rfl, h5⟩ := h4
              exact ⟨t', rfl, h1, h2, h5⟩
            have HTX2 : Hid (txtL (toL t3) = (txtL q).map (fun p => ((acc ++ [ch]) ++ p.1, p.2))) := by
              unfold Hid
              rw [HTX.out, htx]
              exact preT_cons acc ch (txtL q)
            have HQL : Hid (q.length < tr.size) := by
              rw [toL_len] at hsh
              exact hsh
            clear hc htx CC HTX hsh
            go_upto_region 9 with (first
              | (go_at_call 39; refine CT.out.mono ?_; rintro e w5 ⟨rfl, r5, o5⟩; have R5 := Lib.hid r5; have O5 := Lib.hid (OR.out.trans o5); have L5 := Lib.hid (o5.lies LR.out n2); have D5 := Lib.hid (o5.bld RR.out DR.out); have S5 : Hid (SB < w5.heap.size) := Nat.lt_of_lt_of_le HSR.out.2.2 o5.size; clear r5 o5)
              | (go_at_call 49; refine (C5.out w5 R5.out).mono ?_; rintro e w6 ⟨t6, rfl, r6, o6, s6⟩; have R6 := Lib.hid r6; have O6 := Lib.hid (O5.out.trans o6); have L6 := Lib.hid (o6.lies L5.out n2); have D6 := Lib.hid (o6.bld R5.out D5.out); have S6 : Hid (SB < w6.heap.size) := Nat.lt_of_lt_of_le S5.out o6.size; have T6 := Lib.hid s6; clear r6 o6 s6))
            go_wp2_with (first
              | (go_at_call 34; refine (wbyteK SB SB acc ch w6 D6.out (by have := HSR.out.2.1; omega) (Nat.le_of_lt S6.out)).mono ?_; rintro e w7 ⟨rfl, d7, k7⟩; have D7 := Lib.hid d7; have R7 : Hid (Rd w7 R t6) := k7.one R6.out n3 (by decide); have L7 := Lib.hid (k7.node L6.out n4); have O7 := Lib.hid (Only.wrote O6.out k7 HSB.out); have S7 : Hid (SB < w7.heap.size) := Nat.lt_of_lt_of_le S6.out k7.size; clear d7 k7))
            have hlen6 : t6.size = q.length := by rw [← T6.out, toL_len]
            refine ⟨⟨t6, acc ++ [ch], R7.out, O7.out, L7.out, D7.out, by rw [T6.out]; exact HTX2, ⟨?_, ?_, S7.out⟩⟩, ?_⟩
            · have := HQL.out
              have := HSR.out.1
              omega
            · have := HQL.out
              have := HSR.out.2.1
              rw [List.length_append, List.length_singleton]
              omega
            · rw [R7.out.rdSize, RR.out.rdSize, hlen6]
              exact HQL.out
    · have e1 : headIs t2 (byte 34) = false := decide_eq_false h34
      have e2 : after t2 (byte 34) = t2 := by unfold after; rw [if_neg h34]
      rw [e1, e2] at CT
      have HL : Hid (leafR (numL (toL t)) ((toL t).drop (numE (toL t))) = .error (-1)) := by
        unfold Hid
        rw [HL0.out, if_neg h34]
      clear e1 e2 h34 HL0
      go_wp2_with (first
        | (go_at_call 39; refine CT.out.mono ?_; rintro e w3 ⟨rfl, r3, o3⟩; have R3 := Lib.hid r3; have O3 := Lib.hid (O2.out.trans o3); have L3 := Lib.hid (o3.lies L2.out n2); clear r3 o3; clear c0 c1 c2 c3 c4 c5 f0 f1 f2 f3 f4 f5; obtain ⟨⟨c0, c1, c2, c3, c4, c5⟩, f0, f1, f2, f3, f4, f5⟩ := L3.out.nodef))
      refine bodyPost_ret (res_node Tryd.results40 rfl (Lies.all6 L3.out ⟨0, 0, ⟨#[]⟩, 0, 0⟩ (.slice none 0 0))) rfl ?_
      exact .bad rfl (R3.out.set6 n1 _ _ _ _ _ _) (O3.out.fresh (Nat.le_refl _) _ _ _ _ _ _) T2.out HL.out
end Go.Proofs.YtmandanmndmnhaaDoor.Tre
