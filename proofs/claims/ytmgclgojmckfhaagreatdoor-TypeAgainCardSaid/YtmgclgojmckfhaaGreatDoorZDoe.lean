/-
  The program's own layout: negative, slices.IndexFunc, slices.ContainsFunc, slices.Clip, valid. Conditions: at most 2^40 tokens and blocks.
-/
import Derived.Test.YtmgclgojmckfhaaGreatDoorZLayA
import Derived.Test.YtmgclgojmckfhaaGreatDoorZStp
namespace Go.Proofs.YtmgclgojmckfhaaGreatDoor.Lay
open Tks Mrk Go.RowKit
set_option linter.unusedSimpArgs false
set_option linter.unusedVariables false

theorem neg_any (x : Int) (w : World) :
    Calls Tryz.prog 83 #[.int .i64 x] w fun e w' => e = .returned (.bool (decide (x < 0))) ∧ w' = w := by
  go_enter Tryz.func83, Tryz.ntmps83
  go_wp2
  go_ret
  exact ⟨rfl, rfl⟩
set_option maxRecDepth 100000 in
set_option maxHeartbeats 4000000 in
theorem index_any (v : Value) (o : List Int) (w : World) (ho : IntArg w v o) (hf : o.length ≤ 1099511627776) :
    Calls Tryz.prog 110 #[v, .func (.func 83) #[] #[]] w fun e w' => ∃ r : Int, e = .returned (.int .i64 r) ∧ w' = w ∧ (decide (0 ≤ r)) = !(o.all (fun c => decide (0 ≤ c))) := by
  obtain ⟨a, c, rfl⟩ := ho.len
  have HO := Lib.hid ho
  have HF := Lib.hid hf
  have NG := Lib.hid neg_any
  clear ho hf
  go_enter Tryz.func110, Tryz.ntmps110
  go_wp2
  go_loop [8] (fun iv => ∃ k : Nat, iv = .int .i64 (k : Int) ∧ k ≤ o.length ∧ ∀ j x, j < k → o[j]? = some x → 0 ≤ x) (fun iv => o.length - (intOf iv).toNat)
  case atStart => exact ⟨0, rfl, by omega, fun j x hj => absurd hj (by omega)⟩
  case round =>
    obtain ⟨k, rfl, hk, hno⟩ := hrel
    have HNO := Lib.hid hno
    clear hno
    by_cases hp : k < o.length
    · obtain ⟨x, hx⟩ : ∃ x, o[k]? = some x := ⟨_, List.getElem?_eq_getElem hp⟩
      obtain ⟨gb, go, gc, e5, -, hlt5, hc5⟩ := HO.out.cells (by omega)
      simp only [Value.slice.injEq] at e5
      obtain ⟨rfl, -, rfl⟩ := e5
      have c5 := hc5 k x hx
      have HX := Lib.hid hx
      have hw4 : IntKind.i64.wrap ((k : Int) + 1) = (k : Int) + 1 := by rw [IntWalk.i64_left]; exact idx_at k o.length hp (Nat.le_trans HF.out (by decide))
      have hw5 : wrap64 ((k : Int) + 1) = (k : Int) + 1 := idx_at k o.length hp (Nat.le_trans HF.out (by decide))
      have i0 : (0 : Int) ≤ (k : Int) := by omega
      have i1 : (k : Int) < (o.length : Int) := by omega
      clear hc5 hx
      by_cases hx0 : x < 0
      · have y0 : decide (x < 0) = true := decide_eq_true hx0
        have HA : Hid (o.all (fun c => decide (0 ≤ c)) = false) := by
          unfold Hid
          rw [List.all_eq_false]
          exact ⟨x, List.mem_of_getElem? HX.out, by simp; omega⟩
        clear hx0
        go_wp2_with (first
          | (go_at_call 83; refine (NG.out _ _).mono ?_; rintro e w2 ⟨rfl, hw⟩; rw [hw]; clear hw))
        go_ret
        exact ⟨(k : Int), rfl, rfl, by rw [HA.out]; simp⟩
      · have y0 : decide (x < 0) = false := decide_eq_false hx0
        have HN2 : Hid (∀ j y, j < k + 1 → o[j]? = some y → 0 ≤ y) := fun j y hj hy => by
          by_cases q : j = k
          · subst q
            rw [HX.out] at hy
            cases hy
            omega
          · exact HNO.out j y (by omega) hy
        clear hx0
        go_wp2_with (first
          | (go_at_call 83; refine (NG.out _ _).mono ?_; rintro e w2 ⟨rfl, hw⟩; rw [hw]; clear hw))
        go_round
        case rel => exact ⟨k + 1, by go_num, by omega, HN2.out⟩
        case measure => simp [intOf]; omega
    · have HA : Hid (o.all (fun c => decide (0 ≤ c)) = true) := by
        unfold Hid
        rw [List.all_eq_true]
        intro y hy
        obtain ⟨j, hj⟩ := List.mem_iff_getElem?.1 hy
        have hjl := (List.getElem?_eq_some_iff.1 hj).1
        exact decide_eq_true (HNO.out j y (by omega) hj)
      go_wp2_with fail
      go_ret
      exact ⟨-1, rfl, rfl, by rw [HA.out]; rfl⟩
theorem contains_any (v : Value) (o : List Int) (w : World) (ho : IntArg w v o) (hf : o.length ≤ 1099511627776) :
    Calls Tryz.prog 82 #[v, .func (.func 83) #[] #[]] w fun e w' => e = .returned (.bool (!(o.all (fun c => decide (0 ≤ c))))) ∧ w' = w := by
  have C := Lib.hid (index_any v o w ho hf)
  clear ho hf
  go_enter Tryz.func82, Tryz.ntmps82
  go_wp2_with (first
    | (go_at_call 110; refine C.out.mono ?_; rintro e w2 ⟨r, rfl, hw, hr⟩; rw [hw]; clear hw; have HR := Lib.hid hr; clear hr))
  go_ret
  exact ⟨by rw [← HR.out]; rfl, rfl⟩
theorem clip_any (a : Option Addr) (n c : Nat) (w : World) (hnc : n ≤ c) :
    Calls Tryz.prog 65 #[.slice a n c] w fun e w' => e = .returned (.slice a n n) ∧ w' = w := by
  have i0 : (n : Int) ≤ (c : Int) := by omega
  have i1 : (0 : Int) ≤ (n : Int) := by omega
  clear hnc
  go_enter Tryz.func65, Tryz.ntmps65
  go_wp2
  go_ret
  exact ⟨rfl, rfl⟩
set_option maxRecDepth 100000 in
set_option maxHeartbeats 8000000 in
theorem valid_any (v : Value) (s : Sx) (w : World) (hv : StV w v s) (hf : Fit9 s) :
    Calls Tryz.prog 64 #[v] w fun e w' => e = .returned (.bool (okB s)) ∧ Below w.heap.size w w' := by
  obtain ⟨toks, i, o, wt⟩ := s
  obtain ⟨vt, vo, rfl, ht, ho⟩ := hv
  obtain ⟨hf1, hf2⟩ := hf
  dsimp only at ht ho hf1 hf2 ⊢
  have no : ∀ P : Prop, ¬ P → (∀ n : Nat, i = n → Ok toks n o wt → P) → Hid (okB ⟨toks, i, o, wt⟩ = false) := fun P hP h => okB_no (fun n h1 h2 => hP (h n h1 h2))
  obtain ⟨at1, ct1, rfl⟩ := ht.len
  obtain ⟨ao1, co1, rfl⟩ := ho.len
  have HT := Lib.hid ht
  have HO := Lib.hid ho
  have HF1 := Lib.hid hf1
  have HF2 := Lib.hid hf2
  generalize hOK : okB ⟨toks, i, o, wt⟩ = ok at *
  have HOK := Lib.hid hOK
  have NO := Lib.hid no
  clear ht ho hf1 hf2 no hOK
  go_enter Tryz.func64, Tryz.ntmps64
  go_upto_region 1 with fail
  refine gen_world (fun X => Below w.heap.size w X ∧ Lies X w.heap.size (stO (.slice at1 toks.length ct1) i (.slice ao1 o.length co1) wt)) ⟨(Below.refl _ _).alloc (Nat.le_refl _) _, Lies.new w _⟩ ?_
  rintro X ⟨bX, lX⟩
  obtain ⟨c0, c1, c2, c3, f0, f1, f2, f3⟩ := lX.four
  have CF := Lib.hid (contains_any (.slice ao1 o.length co1) o X (HO.out.below bX (Nat.le_refl _)) HF2.out)
  have hTX := HT.out.below bX (Nat.le_refl _)
  have BX := Lib.hid bX
  clear bX lX

  by_cases a1 : i < 0
  · have HN := NO.out False id (fun n h1 h2 => by omega)
    have x1 : decide (i < 0) = true := decide_eq_true a1
    clear a1 hTX
    go_wp2_with fail
    go_ret
    exact ⟨by rw [HN.out]; rfl, BX.out⟩
  have x1 : decide (i < 0) = false := decide_eq_false a1
  obtain ⟨n, rfl⟩ : ∃ n : Nat, i = n := ⟨i.toNat, by omega⟩
  by_cases a2 : toks.length < n
  · have HN := NO.out False id (fun m h1 h2 => by have := h2.at_; omega)
    have x2 : decide ((toks.length : Int) < (n : Int)) = true := decide_eq_true (by omega)
    have x2n : decide (toks.length < n) = true := decide_eq_true a2
    clear a1 hTX
    go_wp2_with fail
    go_ret
    exact ⟨by rw [HN.out]; rfl, BX.out⟩
  have x2 : decide ((toks.length : Int) < (n : Int)) = false := decide_eq_false (by omega)
  have x2n : decide (toks.length < n) = false := decide_eq_false a2
  have x2p : ¬ ((toks.length : Int) < (n : Int)) := by omega
  cases hall : o.all (fun c => decide (0 ≤ c)) with
  | false =>
    have HN := NO.out (o.all (fun c => decide (0 ≤ c)) = true) (by rw [hall]; decide) (fun m h1 h2 => List.all_eq_true.2 (fun c hc => decide_eq_true (h2.opn c hc)))
    rw [hall] at CF
    have CF' : Hid (Calls Tryz.prog 82 #[.slice ao1 o.length co1, .func (.func 83) #[] #[]] X fun e w' => e = .returned (.bool true) ∧ w' = X) := CF
    clear a1 hTX hall CF
    go_wp2_with (first
      | (go_at_call 82; refine CF'.out.mono ?_; rintro e w2 ⟨rfl, hw⟩; rw [hw]; clear hw))
    go_ret
    exact ⟨by rw [HN.out]; rfl, BX.out⟩
  | true =>
    rw [hall] at CF
    have CF' : Hid (Calls Tryz.prog 82 #[.slice ao1 o.length co1, .func (.func 83) #[] #[]] X fun e w' => e = .returned (.bool false) ∧ w' = X) := CF
    have HALL := Lib.hid hall
    clear CF hall
    by_cases w0 : wt = 0
    · subst w0
      have HN : Hid (ok = true) := by
        unfold Hid
        rw [← HOK.out, okB_loop (opn := o) (by omega : n ≤ toks.length) (by omega) (by omega) (fun q => absurd q (by decide))]
        exact HALL.out
      clear a1 hTX a2
      go_wp2_with (first
        | (go_at_call 82; refine CF'.out.mono ?_; rintro e w2 ⟨rfl, hw⟩; rw [hw]; clear hw))
      go_ret
      exact ⟨by rw [HN.out]; rfl, BX.out⟩
    have z0 : (wt == 0) = false := beq_eq_false_iff_ne.2 w0
    by_cases w12 : wt = 1 ∨ wt = 2
    · have z12 : ((wt == 1) = true) ∨ ((wt == 1) = false ∧ (wt == 2) = true) := by
        rcases w12 with q | q
        · exact .inl (beq_iff_eq.2 q)
        · exact .inr ⟨by rw [q]; rfl, beq_iff_eq.2 q⟩
      by_cases a6 : n = toks.length
      · have HN := NO.out False id (fun m h1 h2 => by
          obtain ⟨t, h3, -⟩ := h2.wat (by omega)
          have := (List.getElem?_eq_some_iff.1 h3).1
          omega)
        have x6 : decide ((n : Int) < (toks.length : Int)) = false := decide_eq_false (by omega)
        have x6n : decide (n < toks.length) = false := decide_eq_false (by omega)
        have x6p : ¬ ((n : Int) < (toks.length : Int)) := by omega
        clear a1 hTX a2 a6 w0 w12
        rcases z12 with z1 | ⟨z1, z2⟩
        · go_wp2_with (first
            | (go_at_call 82; refine CF'.out.mono ?_; rintro e w2 ⟨rfl, hw⟩; rw [hw]; clear hw))
          go_ret
          exact ⟨by rw [HN.out]; rfl, BX.out⟩
        · go_wp2_with (first
            | (go_at_call 82; refine CF'.out.mono ?_; rintro e w2 ⟨rfl, hw⟩; rw [hw]; clear hw))
          go_ret
          exact ⟨by rw [HN.out]; rfl, BX.out⟩
      · have x6 : decide ((n : Int) < (toks.length : Int)) = true := decide_eq_true (by omega)
        have x6n : decide (n < toks.length) = true := decide_eq_true (by omega)
        have x6p : (n : Int) < (toks.length : Int) := by omega
        have i0 : (0 : Int) ≤ (n : Int) := by omega
        obtain ⟨t, ht5⟩ : ∃ t, toks[n]? = some t := ⟨_, List.getElem?_eq_getElem (by omega)⟩
        obtain ⟨tb, td, tc, e3, h1, h2⟩ := hTX.cells (by omega)
        simp only [Value.slice.injEq] at e3
        obtain ⟨rfl, -, rfl⟩ := e3
        have HI : TkIn X tb td toks := ⟨h1, h2⟩
        have hk5 := (HI.four n t ht5).1
        have HN : Hid (ok = (t.kind == 16)) := by
          unfold Hid
          by_cases q : t.kind = 16
          · rw [← HOK.out, okB_loop (opn := o) (by omega : n ≤ toks.length) (by omega) (by omega) (fun _ => ⟨t, ht5, q⟩), HALL.out]
            exact (beq_iff_eq.2 q).symm
          · have := NO.out False id (fun m h1 h2 => by
              obtain ⟨t2, h3, h4⟩ := h2.wat (by omega)
              have e : n = m := by omega
              subst e
              rw [ht5] at h3
              cases h3
              exact q h4)
            rw [this.out]
            exact (beq_eq_false_iff_ne.2 q).symm
        clear a1 hTX a2 a6 w0 w12 HI h1 h2 ht5 x6 x2p
        rcases z12 with z1 | ⟨z1, z2⟩
        · go_wp2_with (first
            | (go_at_call 82; refine CF'.out.mono ?_; rintro e w2 ⟨rfl, hw⟩; rw [hw]; clear hw))
          go_ret
          exact ⟨by rw [HN.out]; rfl, BX.out⟩
        · go_wp2_with (first
            | (go_at_call 82; refine CF'.out.mono ?_; rintro e w2 ⟨rfl, hw⟩; rw [hw]; clear hw))
          go_ret
          exact ⟨by rw [HN.out]; rfl, BX.out⟩
    · have HN := NO.out False id (fun m h1 h2 => by have := h2.wlo; have := h2.whi; omega)
      have z1 : (wt == 1) = false := beq_eq_false_iff_ne.2 (fun q => w12 (.inl q))
      have z2 : (wt == 2) = false := beq_eq_false_iff_ne.2 (fun q => w12 (.inr q))
      clear a1 hTX a2 w0 w12
      go_wp2_with (first
        | (go_at_call 82; refine CF'.out.mono ?_; rintro e w2 ⟨rfl, hw⟩; rw [hw]; clear hw))
      go_ret
      exact ⟨by rw [HN.out]; rfl, BX.out⟩
end Go.Proofs.YtmgclgojmckfhaaGreatDoor.Lay
/-
  The program's own layout: Close, Next, All. Conditions: at most 2^40 tokens and blocks; All: at most 3000 tokens.
-/
namespace Go.Proofs.YtmgclgojmckfhaaGreatDoor.Lay
open Tks Mrk Go.RowKit
set_option linter.unusedSimpArgs false
set_option linter.unusedVariables false

theorem set4_size (W : World) (B : Nat) (x y p q : Value) : (set4 W B x y p q).heap.size = W.heap.size := by
  unfold set4
  rw [World.size_setCell, World.size_setCell, World.size_setCell, World.size_setCell]
theorem set4_keep (W : World) {B k : Nat} (h : k ≠ B) (x y p q : Value) : (set4 W B x y p q).heap[k]? = W.heap[k]? := by
  unfold set4
  rw [Below.heap_setCell _ _ _ _ h, Below.heap_setCell _ _ _ _ h, Below.heap_setCell _ _ _ _ h, Below.heap_setCell _ _ _ _ h]
theorem drew_same (W : World) : W.drew.os = W.os ∧ W.drew.tape = W.tape ∧ W.drew.output = W.output ∧ W.drew.heap = W.heap := ⟨rfl, rfl, rfl, rfl⟩
theorem set_same (W : World) (p : Addr) (v : Value) : (W.setCell p v).os = W.os ∧ (W.setCell p v).tape = W.tape ∧ (W.setCell p v).output = W.output := ⟨rfl, rfl, rfl⟩
theorem set4_same (W : World) (B : Nat) (x y p q : Value) : (set4 W B x y p q).os = W.os ∧ (set4 W B x y p q).tape = W.tape ∧ (set4 W B x y p q).output = W.output := by
  unfold set4
  exact ⟨((set_same _ _ _).1.trans ((set_same _ _ _).1.trans ((set_same _ _ _).1.trans (set_same _ _ _).1))), ((set_same _ _ _).2.1.trans ((set_same _ _ _).2.1.trans ((set_same _ _ _).2.1.trans (set_same _ _ _).2.1))), ((set_same _ _ _).2.2.trans ((set_same _ _ _).2.2.trans ((set_same _ _ _).2.2.trans (set_same _ _ _).2.2)))⟩
theorem sets_kept (X : World) (B1 B2 : Nat) (a b c d e f g h : Value) :
    (set4 (set4 X B1 a b c d) B2 e f g h).drew.os = X.os ∧ (set4 (set4 X B1 a b c d) B2 e f g h).drew.tape = X.tape ∧ (set4 (set4 X B1 a b c d) B2 e f g h).drew.output = X.output ∧ X.heap.size ≤ (set4 (set4 X B1 a b c d) B2 e f g h).drew.heap.size ∧
    ∀ k, k < X.heap.size → k ≠ B1 → k ≠ B2 → (set4 (set4 X B1 a b c d) B2 e f g h).drew.heap[k]? = X.heap[k]? := by
  obtain ⟨d1, d2, d3, d4⟩ := drew_same (set4 (set4 X B1 a b c d) B2 e f g h)
  obtain ⟨e1, e2, e3⟩ := set4_same (set4 X B1 a b c d) B2 e f g h
  obtain ⟨f1, f2, f3⟩ := set4_same X B1 a b c d
  refine ⟨d1.trans (e1.trans f1), d2.trans (e2.trans f2), d3.trans (e3.trans f3), ?_, fun k _ k1 k2 => ?_⟩
  · rw [d4, set4_size, set4_size]
    exact Nat.le_refl _
  · rw [d4, set4_keep _ k2, set4_keep _ k1]
theorem IntArg.cut {w : World} {a : Option Addr} {c : Nat} {o : List Int} (h : IntArg w (.slice a o.length c) o) (hne : o ≠ []) : IntArg w (.slice a (o.length - 1) c) o.dropLast := by
  rcases h with ⟨e, _⟩ | ⟨b2, off, c2, e, q1, q2, q3⟩
  · exact absurd e hne
  · cases e
    rw [List.dropLast_eq_take]
    exact IntArg.take q1 q2 q3 (by omega)
set_option maxRecDepth 100000 in
set_option maxHeartbeats 8000000 in
theorem next_no (v : Value) (s : Sx) (w : World) (hv : StV w v s) (hf : Fit9 s) (hno : okB s = false) : Calls Tryz.prog 49 #[v] w (NextOut w s) := by
  have V := Lib.hid (fun W h => valid_any v s W h hf)
  rw [hno] at V
  have HV := Lib.hid hv
  have HNS : Hid (nextS s = (zeroT, zeroS, 1)) := by
    unfold Hid nextS
    rw [hno]
    rfl
  obtain ⟨toks, i, o, wt⟩ := s
  obtain ⟨vt, vo, rfl, ht, ho⟩ := hv
  dsimp only at ht ho
  unfold NextOut
  rw [HNS.out]
  obtain ⟨at1, ct1, rfl⟩ := ht.len
  obtain ⟨ao1, co1, rfl⟩ := ho.len
  clear ht ho hf hno HNS
  go_enter Tryz.func49, Tryz.ntmps49
  go_upto_region 1 with fail
  refine gen_world (fun X => Below w.heap.size w X ∧ Lies X w.heap.size (stO (.slice at1 toks.length ct1) i (.slice ao1 o.length co1) wt) ∧ Lies X (w.heap.size + 1) (tkO zeroT) ∧ Lies X (w.heap.size + 1 + 1) (stO (.slice none 0 0) 0 (.slice none 0 0) 0)) ⟨below_three w _ _ _, (three_lie w _ _ _).1, (three_lie w _ _ _).2.1, (three_lie w _ _ _).2.2⟩ ?_
  rintro X ⟨bX, lX, rX, sX⟩
  generalize hB2 : w.heap.size + 1 + 1 = B2 at *
  generalize hB1 : w.heap.size + 1 = B1 at *
  have n1 : ¬ B1 = w.heap.size := by omega
  have n2 : ¬ B2 = w.heap.size := by omega
  have n3 : ¬ B1 = B2 := by omega
  have m1 : ¬ w.heap.size = B1 := by omega
  have m2 : ¬ w.heap.size = B2 := by omega
  have m3 : ¬ B2 = B1 := by omega
  have HB : Hid (w.heap.size ≤ B1 ∧ w.heap.size ≤ B2) := ⟨by omega, by omega⟩
  obtain ⟨c0, c1, c2, c3, f0, f1, f2, f3⟩ := lX.four
  have BX := Lib.hid bX
  have LX := Lib.hid lX
  have RX := Lib.hid rX
  have SX := Lib.hid sX
  have VX := Lib.hid (V.out X (HV.out.below bX (Nat.le_refl _)))
  clear bX lX rX sX hB2 hB1 V
  go_wp2_with (first
    | (go_at_call 64; refine VX.out.mono ?_; rintro e w2 ⟨rfl, b2⟩; have R2 := Lib.hid (RX.out.below b2 RX.out.lt); have S2 := Lib.hid (SX.out.below b2 SX.out.lt); have BW := Lib.hid (afterL BX.out b2); clear b2; obtain ⟨d0, d1, d2, d3, g0, g1, g2, g3⟩ := tokLies R2.out; obtain ⟨e0, e1, e2, e3, h0, h1, h2, h3⟩ := S2.out.four))
  refine bodyPost_ret (by simp [results, Tryz.results49, go_sem, d0, d1, d2, d3, e0, e1, e2, e3, n3, m3]; try rfl) rfl ?_
  exact ⟨_, rfl, StV.zero _, set4_below (set4_below BW.out HB.out.1 _ _ _ _) HB.out.2 _ _ _ _⟩
/-- What Next answers, and where its result lies. -/
def NextFr (W : World) (vt vo : Value) (s : Sx) (e : Ending) (w' : World) : Prop := ∃ vo', e = .returned (.tuple #[tkV9 (nextS s).1, .agg #[vt, .int .i64 (nextS s).2.1.at_, vo', .int .i64 (nextS s).2.1.wait], .int .i64 (nextS s).2.2]) ∧ IntArg w' vo' (nextS s).2.1.opn ∧ From W.heap.size vo vo' ∧ Below W.heap.size W w'
set_option maxRecDepth 100000 in
set_option maxHeartbeats 16000000 in
theorem next_from (vt0 vo0 : Value) (s : Sx) (w : World) (ht0 : TkArg w vt0 s.toks) (ho0 : IntArg w vo0 s.opn) (hf : Fit9 s) (hok : okB s = true) : Calls Tryz.prog 49 #[.agg #[vt0, .int .i64 s.at_, vo0, .int .i64 s.wait]] w (NextFr w vt0 vo0 s) := by
  have hv : StV w (.agg #[vt0, .int .i64 s.at_, vo0, .int .i64 s.wait]) s := ⟨vt0, vo0, rfl, ht0, ho0⟩
  obtain ⟨v, hve⟩ : ∃ v, (.agg #[vt0, .int .i64 s.at_, vo0, .int .i64 s.wait] : Value) = v := ⟨_, rfl⟩
  rw [hve] at hv ⊢
  have V := Lib.hid (fun W h => valid_any v s W h hf)
  rw [hok] at V
  have HV := Lib.hid hv
  obtain ⟨i, hi, hk⟩ := (okB_iff s).1 hok
  have HNS : Hid (nextS s = ((nextL s.toks i s.opn s.wait).tok, ⟨s.toks, ((nextL s.toks i s.opn s.wait).at_ : Int), (nextL s.toks i s.opn s.wait).opn, (nextL s.toks i s.opn s.wait).wait⟩, (nextL s.toks i s.opn s.wait).err)) := by
    unfold Hid nextS
    rw [if_pos hok, hi, Int.toNat_natCast]
  obtain ⟨toks, i0, o, wt⟩ := s
  obtain ⟨vt, vo, rfl, ht, ho⟩ := hv
  injection hve with hve
  injection hve with hve
  injection hve with hve1 hve
  injection hve with hve2 hve
  injection hve with hve3 hve
  subst hve1 hve3
  clear hve hve2 ht0 ho0
  obtain ⟨hf1, hf2⟩ := hf
  dsimp only at ht ho hf1 hf2 hi hk
  dsimp only at HNS
  subst hi
  unfold NextFr
  rw [HNS.out]
  clear HNS hok
  obtain ⟨at1, ct1, rfl⟩ := ht.len
  obtain ⟨ao1, co1, rfl⟩ := ho.len
  have hlc : o.length ≤ co1 ∨ o = [] := by
    rcases ho with ⟨e, _⟩ | ⟨b2, off, c2, e, q1, _⟩
    · exact .inr e
    · cases e
      exact .inl q1
  have ST := Lib.hid (fun (Y : World) h1 h2 h3 h4 => step_any (.slice at1 toks.length ct1) (.slice ao1 o.length o.length) toks i o wt w.heap.size (w.heap.size + 1) none Y h1 h2 h3 h4 hk hf1 hf2)
  have HT := Lib.hid ht
  have HO := Lib.hid ho
  dsimp only
  generalize hn : nextL toks i o wt = n at *
  obtain ⟨⟨nk, nt, nl, nc⟩, na, no, nw, ne⟩ := n
  unfold tkV9 at ST
  dsimp only at ST ⊢
  have CL := Lib.hid (fun W h => clip_any ao1 o.length co1 W h)
  clear ht ho hf1 hf2 hk hn
  have hlc2 : Hid (o.length ≤ co1) := by
    rcases hlc with q | q
    · exact q
    · rw [q]
      exact Nat.zero_le _
  clear hlc
  go_enter Tryz.func49, Tryz.ntmps49
  go_upto_region 1 with fail
  refine gen_world (fun X => Below w.heap.size w X ∧ Lies X w.heap.size (stO (.slice at1 toks.length ct1) (i : Int) (.slice ao1 o.length co1) wt) ∧ Lies X (w.heap.size + 1) (tkO zeroT) ∧ Lies X (w.heap.size + 1 + 1) (stO (.slice none 0 0) 0 (.slice none 0 0) 0)) ⟨below_three w _ _ _, (three_lie w _ _ _).1, (three_lie w _ _ _).2.1, (three_lie w _ _ _).2.2⟩ ?_
  rintro X ⟨bX, lX, rX, sX⟩
  have HB : Hid (w.heap.size < w.heap.size + 1 ∧ w.heap.size < w.heap.size + 1 + 1) := ⟨by omega, by omega⟩
  generalize hB2 : w.heap.size + 1 + 1 = B2 at *
  generalize hB1 : w.heap.size + 1 = B1 at *
  have n1 : ¬ B1 = w.heap.size := by omega
  have n2 : ¬ B2 = w.heap.size := by omega
  have n3 : ¬ B1 = B2 := by omega
  have m1 : ¬ w.heap.size = B1 := by omega
  have m2 : ¬ w.heap.size = B2 := by omega
  have m3 : ¬ B2 = B1 := by omega
  have HB2 := Lib.hid hB2
  have HB1 := Lib.hid hB1
  obtain ⟨c0, c1, c2, c3, f0, f1, f2, f3⟩ := lX.four
  have BX := Lib.hid bX
  have LX := Lib.hid lX
  have RX := Lib.hid rX
  have SX := Lib.hid sX
  have VX := Lib.hid (V.out X (HV.out.below bX (Nat.le_refl _)))
  clear bX lX rX sX hB2 hB1 V
  go_upto_region 4 with (first
    | (go_at_call 64; refine VX.out.mono ?_; rintro e w2 ⟨rfl, b2⟩; have L2 := Lib.hid (LX.out.below b2 LX.out.lt); have R2 := Lib.hid (RX.out.below b2 RX.out.lt); have S2 := Lib.hid (SX.out.below b2 SX.out.lt); have BW := Lib.hid (afterL BX.out b2); clear b2; obtain ⟨c0, c1, c2, c3, f0, f1, f2, f3⟩ := L2.out.four)
    | (go_at_call 65; refine (CL.out _ hlc2.out).mono ?_; rintro e w3 ⟨rfl, hw⟩; rw [hw]; clear hw))
  refine gen_world (fun Y => Below w.heap.size w Y ∧ Lies Y w.heap.size (stO (.slice at1 toks.length ct1) (i : Int) (.slice ao1 o.length o.length) wt) ∧ Lies Y B1 (tkO zeroT) ∧ Lies Y B2 (stO (.slice none 0 0) 0 (.slice none 0 0) 0)) ⟨BW.out.setCell (p := ⟨w.heap.size, 2, none⟩) (Nat.le_refl _) _, L2.out.set2 _, Lies.other R2.out n1 2 _, Lies.other S2.out n2 2 _⟩ ?_
  rintro Y ⟨bY, lY, rY, sY⟩
  have hoY : IntArg Y (.slice ao1 o.length o.length) o := by
    have h0 := HO.out.below bY (Nat.le_refl _)
    rcases h0 with ⟨e, _⟩ | ⟨b2, off, c2, e, q1, q2, q3⟩
    · exact .inl ⟨e, _, _, by rw [e]; rfl⟩
    · cases e
      exact .inr ⟨b2, off, _, rfl, Nat.le_refl _, q2, q3⟩
  have apO : ∀ q, Apart w.heap.size q (.slice ao1 o.length o.length) := by
    intro q b off m c e hm
    cases e
    exact IntArg.apart HO.out b off _ co1 rfl hm
  have STY := Lib.hid (ST.out Y lY ⟨hoY, apO _, HB.out.1, Nat.le_of_lt rY.lt, .inr ⟨rfl, _, rfl⟩⟩ (HT.out.below bY (Nat.le_refl _)) (TkArg.apart HT.out))
  have BY := Lib.hid bY
  have LY := Lib.hid lY
  have RY := Lib.hid rY
  have SY := Lib.hid sY
  clear bY lY rY sY hoY apO ST c0 c1 c2 c3 f0 f1 f2 f3 R2 S2 L2 BW RX SX LX BX
  go_upto_region 5 with (first
    | (go_at_call 66; refine STY.out.mono ?_; rintro e w4 ⟨rfl, q4⟩; obtain ⟨vo2, l4, a4, _, p4, f4, k4⟩ := q4; have L4 := Lib.hid l4; have A4 := Lib.hid a4; have F4 := Lib.hid f4; have K4 := Lib.hid k4; clear l4 a4 p4 f4 k4))
  obtain ⟨p2, q2, rfl⟩ := A4.out.len
  have R4 := K4.out.lies RY.out n1 (by simp)
  have S4 := K4.out.lies SY.out n2 (by simp)
  have Z1 := RY.out.lt
  have Z2 := SY.out.lt
  have Z3 := K4.out.size
  refine gen_world (fun X => Below w4.heap.size w4 X ∧ Lies X w4.heap.size (tkO ⟨nk, nt, nl, nc⟩)) ⟨(Below.refl _ _).alloc (Nat.le_refl _) _, Lies.new w4 _⟩ ?_
  rintro X ⟨bX, tX⟩
  have B5 := Lib.hid bX
  have L5 := Lib.hid (L4.out.below bX L4.out.lt)
  have R5 := Lib.hid (R4.below bX R4.lt)
  have S5 := Lib.hid (S4.below bX S4.lt)
  have Z4 := HB.out
  have b0 : ¬ w4.heap.size = w.heap.size := by have := L4.out.lt; omega
  have b3 : ¬ w.heap.size = w4.heap.size := by omega
  have b1 : ¬ w4.heap.size = B1 := by omega
  have b2 : ¬ w4.heap.size = B2 := by omega
  have b4 : ¬ B1 = w4.heap.size := by omega
  have b5 : ¬ B2 = w4.heap.size := by omega
  have HZ := Lib.hid (And.intro Z1 (And.intro Z2 Z3))
  have HSZ := Lib.hid (Nat.le_refl w4.heap.size)
  obtain ⟨x0, x1, x2, x3, y0, y1, y2, y3⟩ := tokLies tX
  obtain ⟨c0, c1, c2, c3, f0, f1, f2, f3⟩ := L5.out.four
  obtain ⟨d0, d1, d2, d3, g0, g1, g2, g3⟩ := tokLies R5.out
  obtain ⟨e0, e1, e2, e3, h0, h1, h2, h3⟩ := S5.out.four
  dsimp only [zeroT] at d0 d1 d2 d3 x0 x1 x2 x3
  have fin : ∀ W2 : World, (W2.os = X.os ∧ W2.tape = X.tape ∧ W2.output = X.output ∧ X.heap.size ≤ W2.heap.size ∧ (∀ k, k < X.heap.size → k ≠ B1 → k ≠ B2 → W2.heap[k]? = X.heap[k]?)) →
      IntArg W2 (.slice p2 no.length q2) no ∧ From w.heap.size (.slice ao1 o.length co1) (.slice p2 no.length q2) ∧ Below w.heap.size w W2 := by
    rintro W2 ⟨h1, h1b, h2, h3, h4⟩
    have bw : Below w.heap.size w X := (BY.out.trans (K4.out.below (Nat.le_refl _) (fun k hk => by cases hk) (by have := BY.out.size; omega))).trans (B5.out.mono (by have := BY.out.size; omega))
    have bf : Below w.heap.size w W2 := by
      refine ⟨h1.trans bw.os, h1b.trans bw.tape, h2.trans bw.output, Nat.le_trans bw.size h3, fun k hk => (h4 k (by have := bw.size; omega) (by omega) (by omega)).trans (bw.block k hk)⟩
    refine ⟨?_, fun k off m c e hm => ?_, bf⟩
    rotate_left
    · cases e
      have hne : no ≠ [] := fun e2 => hm (by rw [e2]; rfl)
      rcases F4.out hne k rfl with ⟨e2, q | q⟩ | q
      · right
        cases ao1 with
        | none => cases e2
        | some ad =>
          obtain ⟨b9, off9, x9⟩ := ad
          have hz := HO.out.len
          rcases HO.out with ⟨e3, _⟩ | ⟨b3, off3, c3, e3, _⟩
          · exact absurd e3 q
          · cases e3
            cases e2
            exact ⟨_, _, _, rfl, fun h0 => q (List.eq_nil_of_length_eq_zero h0)⟩
      · cases q
      · left
        have := BY.out.size
        omega
    refine IntArg.moved A4.out (Nat.le_trans B5.out.size h3) fun k off c e hm => ?_
    have hne : no ≠ [] := fun e2 => hm (by rw [e2]; rfl)
    have hk := IntArg.ownlt A4.out hne k (by rw [e]; rfl)
    have hB : k ≠ B1 ∧ k ≠ B2 := by
      rcases F4.out hne k (by rw [e]; rfl) with ⟨e2, q | q⟩ | q
      · have e3 : (Value.slice ao1 o.length co1).ownBlock = some k := by
          cases ao1 <;> exact e2
        have := IntArg.ownlt HO.out q k e3
        omega
      · cases q
      · have := HZ.out
        omega
    exact (h4 k (by have := B5.out.size; omega) hB.1 hB.2).trans (B5.out.block k hk)
  have FIN := Lib.hid fin
  clear R4 S4 Z1 Z2 Z3 Z4 bX tX fin
  generalize w4.heap.size = B6 at *
  go_region_held3 (fun w' => w'.cell? ⟨w.heap.size, 0, none⟩ = some (.slice at1 toks.length ct1) ∧ w'.cell? ⟨w.heap.size, 1, none⟩ = some (.int .i64 (na : Int)) ∧ w'.cell? ⟨w.heap.size, 2, none⟩ = some (.slice p2 no.length q2) ∧ w'.cell? ⟨w.heap.size, 3, none⟩ = some (.int .i64 nw) ∧ w'.cell? ⟨B6, 0, none⟩ = some (.int .i64 nk) ∧ w'.cell? ⟨B6, 1, none⟩ = some (.string nt) ∧ w'.cell? ⟨B6, 2, none⟩ = some (.int .i64 nl) ∧ w'.cell? ⟨B6, 3, none⟩ = some (.int .i64 nc)) (go_keep) (fail)
  go_wp2_with fail
  refine bodyPost_ret (by simp [results, Tryz.results49, go_sem, d0, d1, d2, d3, e0, e1, e2, e3, n3, m3]; try rfl) rfl ?_
  exact ⟨_, rfl, FIN.out _ (sets_kept X B1 B2 (.int .i64 nk) (.string nt) (.int .i64 nl) (.int .i64 nc) (.slice at1 toks.length ct1) (.int .i64 (na : Int)) (.slice p2 no.length q2) (.int .i64 nw))⟩
end Go.Proofs.YtmgclgojmckfhaaGreatDoor.Lay
