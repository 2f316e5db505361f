/-
  The program's own layout: negative, slices.IndexFunc, slices.ContainsFunc, slices.Clip, valid. Conditions: at most 2^40 tokens and blocks.
-/
import Derived.Test.YtmgclgojmckfhaaZRg
import Derived.Test.YtmgclgojmckfhaaZNxb
namespace Go.Proofs.Ytmgclgojmckfhaa.Lay
open Tks Mrk Go.RowKit
set_option linter.unusedSimpArgs false
set_option linter.unusedVariables false

theorem neg_any (x : Int) (w : World) :
    Calls Try.prog 74 #[.int .i64 x] w fun e w' => e = .returned (.bool (decide (x < 0))) ∧ w' = w := by
  go_enter Try.func74, Try.ntmps74
  go_wp2
  go_ret
  exact ⟨rfl, rfl⟩
set_option maxRecDepth 100000 in
set_option maxHeartbeats 4000000 in
theorem index_any (v : Value) (o : List Int) (w : World) (ho : IntArg w v o) (hf : o.length ≤ 1099511627776) :
    Calls Try.prog 81 #[v, .func (.func 74) #[] #[]] w fun e w' => ∃ r : Int, e = .returned (.int .i64 r) ∧ w' = w ∧ (decide (0 ≤ r)) = !(o.all (fun c => decide (0 ≤ c))) := by
  obtain ⟨a, c, rfl⟩ := ho.len
  have HO := Lib.hid ho
  have HF := Lib.hid hf
  have NG := Lib.hid neg_any
  clear ho hf
  go_enter Try.func81, Try.ntmps81
  go_wp2
  go_loop [8] (fun iv => ∃ k : Nat, iv = .int .i64 (k : Int) ∧ k ≤ o.length ∧ ∀ j x, j < k → o[j]? = some x → 0 ≤ x) (fun iv => o.length - (intOf iv).toNat)
  case atStart => exact ⟨0, rfl, by omega, fun j x hj => absurd hj (by omega)⟩
  case round =>
    obtain ⟨k, rfl, hk, hno⟩ := hrel
    have HNO := Lib.hid hno
    clear hno
    by_cases hp : k < o.length
    · obtain ⟨x, hx⟩ : ∃ x, o[k]? = some x := ⟨_, List.getElem?_eq_getElem hp⟩
      obtain ⟨gb, go, gc, e5, -, hlt5, hc5⟩ := HO.out.cells (by omega)
      simp only [Value.slice.injEq] at e5
      obtain ⟨rfl, -, rfl⟩ := e5
      have c5 := hc5 k x hx
      have HX := Lib.hid hx
      have hw4 : IntKind.i64.wrap ((k : Int) + 1) = (k : Int) + 1 := by rw [IntWalk.i64_left]; exact idx_at k o.length hp (Nat.le_trans HF.out (by decide))
      have hw5 : wrap64 ((k : Int) + 1) = (k : Int) + 1 := idx_at k o.length hp (Nat.le_trans HF.out (by decide))
      have i0 : (0 : Int) ≤ (k : Int) := by omega
      have i1 : (k : Int) < (o.length : Int) := by omega
      clear hc5 hx
      by_cases hx0 : x < 0
      · have y0 : decide (x < 0) = true := decide_eq_true hx0
        have HA : Hid (o.all (fun c => decide (0 ≤ c)) = false) := by
          unfold Hid
          rw [List.all_eq_false]
          exact ⟨x, List.mem_of_getElem? HX.out, by simp; omega⟩
        clear hx0
        go_wp2_with (first
          | (go_at_call 74; refine (NG.out _ _).mono ?_; rintro e w2 ⟨rfl, hw⟩; rw [hw]; clear hw))
        go_ret
        exact ⟨(k : Int), rfl, rfl, by rw [HA.out]; simp⟩
      · have y0 : decide (x < 0) = false := decide_eq_false hx0
        have HN2 : Hid (∀ j y, j < k + 1 → o[j]? = some y → 0 ≤ y) := fun j y hj hy => by
          by_cases q : j = k
          · subst q
            rw [HX.out] at hy
            cases hy
            omega
          · exact HNO.out j y (by omega) hy
        clear hx0
        go_wp2_with (first
          | (go_at_call 74; refine (NG.out _ _).mono ?_; rintro e w2 ⟨rfl, hw⟩; rw [hw]; clear hw))
        go_round
        case rel => exact ⟨k + 1, by go_num, by omega, HN2.out⟩
        case measure => simp [intOf]; omega
    · have HA : Hid (o.all (fun c => decide (0 ≤ c)) = true) := by
        unfold Hid
        rw [List.all_eq_true]
        intro y hy
        obtain ⟨j, hj⟩ := List.mem_iff_getElem?.1 hy
        have hjl := (List.getElem?_eq_some_iff.1 hj).1
        exact decide_eq_true (HNO.out j y (by omega) hj)
      go_wp2_with fail
      go_ret
      exact ⟨-1, rfl, rfl, by rw [HA.out]; rfl⟩
theorem contains_any (v : Value) (o : List Int) (w : World) (ho : IntArg w v o) (hf : o.length ≤ 1099511627776) :
    Calls Try.prog 73 #[v, .func (.func 74) #[] #[]] w fun e w' => e = .returned (.bool (!(o.all (fun c => decide (0 ≤ c))))) ∧ w' = w := by
  have C := Lib.hid (index_any v o w ho hf)
  clear ho hf
  go_enter Try.func73, Try.ntmps73
  go_wp2_with (first
    | (go_at_call 81; refine C.out.mono ?_; rintro e w2 ⟨r, rfl, hw, hr⟩; rw [hw]; clear hw; have HR := Lib.hid hr; clear hr))
  go_ret
  exact ⟨by rw [← HR.out]; rfl, rfl⟩
theorem clip_any (a : Option Addr) (n c : Nat) (w : World) (hnc : n ≤ c) :
    Calls Try.prog 61 #[.slice a n c] w fun e w' => e = .returned (.slice a n n) ∧ w' = w := by
  have i0 : (n : Int) ≤ (c : Int) := by omega
  have i1 : (0 : Int) ≤ (n : Int) := by omega
  clear hnc
  go_enter Try.func61, Try.ntmps61
  go_wp2
  go_ret
  exact ⟨rfl, rfl⟩
theorem gtr_is (n m : Nat) : decide ((n : Int) < (m : Int)) = decide (n < m) := by simp
set_option maxRecDepth 100000 in
set_option maxHeartbeats 8000000 in
theorem valid_any (v : Value) (s : Sx) (w : World) (hv : StV w v s) (hf : Fit9 s) :
    Calls Try.prog 60 #[v] w fun e w' => e = .returned (.bool (okB s)) ∧ Below w.heap.size w w' := by
  obtain ⟨toks, i, o, wt⟩ := s
  obtain ⟨vt, vo, rfl, ht, ho⟩ := hv
  obtain ⟨hf1, hf2⟩ := hf
  dsimp only at ht ho hf1 hf2 ⊢
  have no : ∀ P : Prop, ¬ P → (∀ n : Nat, i = n → Ok toks n o wt → P) → Hid (okB ⟨toks, i, o, wt⟩ = false) := fun P hP h => okB_no (fun n h1 h2 => hP (h n h1 h2))
  obtain ⟨at1, ct1, rfl⟩ := ht.len
  obtain ⟨ao1, co1, rfl⟩ := ho.len
  have HT := Lib.hid ht
  have HO := Lib.hid ho
  have HF1 := Lib.hid hf1
  have HF2 := Lib.hid hf2
  generalize hOK : okB ⟨toks, i, o, wt⟩ = ok at *
  have HOK := Lib.hid hOK
  have NO := Lib.hid no
  clear ht ho hf1 hf2 no hOK
  go_enter Try.func60, Try.ntmps60
  go_upto_region 1 with fail
  refine gen_world (fun X => Below w.heap.size w X ∧ Lies X w.heap.size (stO (.slice at1 toks.length ct1) i (.slice ao1 o.length co1) wt)) ⟨(Below.refl _ _).alloc (Nat.le_refl _) _, Lies.new w _⟩ ?_
  rintro X ⟨bX, lX⟩
  obtain ⟨c0, c1, c2, c3, f0, f1, f2, f3⟩ := lX.four
  have CF := Lib.hid (contains_any (.slice ao1 o.length co1) o X (HO.out.below bX (Nat.le_refl _)) HF2.out)
  have hTX := HT.out.below bX (Nat.le_refl _)
  have BX := Lib.hid bX
  clear bX lX

  by_cases a1 : i < 0
  · have HN := NO.out False id (fun n h1 h2 => by omega)
    have x1 : decide (i < 0) = true := decide_eq_true a1
    clear a1 hTX
    go_wp2_with fail
    go_ret
    exact ⟨by rw [HN.out]; rfl, BX.out⟩
  have x1 : decide (i < 0) = false := decide_eq_false a1
  obtain ⟨n, rfl⟩ : ∃ n : Nat, i = n := ⟨i.toNat, by omega⟩
  by_cases a2 : toks.length < n
  · have HN := NO.out False id (fun m h1 h2 => by have := h2.at_; omega)
    have x2 : decide ((toks.length : Int) < (n : Int)) = true := decide_eq_true (by omega)
    have x2n : decide (toks.length < n) = true := decide_eq_true a2
    clear a1 hTX
    go_wp2_with fail
    go_ret
    exact ⟨by rw [HN.out]; rfl, BX.out⟩
  have x2 : decide ((toks.length : Int) < (n : Int)) = false := decide_eq_false (by omega)
  have x2n : decide (toks.length < n) = false := decide_eq_false a2
  have x2p : ¬ ((toks.length : Int) < (n : Int)) := by omega
  cases hall : o.all (fun c => decide (0 ≤ c)) with
  | false =>
    have HN := NO.out (o.all (fun c => decide (0 ≤ c)) = true) (by rw [hall]; decide) (fun m h1 h2 => List.all_eq_true.2 (fun c hc => decide_eq_true (h2.opn c hc)))
    rw [hall] at CF
    have CF' : Hid (Calls Try.prog 73 #[.slice ao1 o.length co1, .func (.func 74) #[] #[]] X fun e w' => e = .returned (.bool true) ∧ w' = X) := CF
    clear a1 hTX hall CF
    go_wp2_with (first
      | (go_at_call 73; refine CF'.out.mono ?_; rintro e w2 ⟨rfl, hw⟩; rw [hw]; clear hw))
    go_ret
    exact ⟨by rw [HN.out]; rfl, BX.out⟩
  | true =>
    rw [hall] at CF
    have CF' : Hid (Calls Try.prog 73 #[.slice ao1 o.length co1, .func (.func 74) #[] #[]] X fun e w' => e = .returned (.bool false) ∧ w' = X) := CF
    have HALL := Lib.hid hall
    clear CF hall
    by_cases w0 : wt = 0
    · subst w0
      have HN : Hid (ok = true) := by
        unfold Hid
        rw [← HOK.out, okB_loop (opn := o) (by omega : n ≤ toks.length) (by omega) (by omega) (fun q => absurd q (by decide))]
        exact HALL.out
      clear a1 hTX a2
      go_wp2_with (first
        | (go_at_call 73; refine CF'.out.mono ?_; rintro e w2 ⟨rfl, hw⟩; rw [hw]; clear hw))
      go_ret
      exact ⟨by rw [HN.out]; rfl, BX.out⟩
    have z0 : (wt == 0) = false := beq_eq_false_iff_ne.2 w0
    by_cases w12 : wt = 1 ∨ wt = 2
    · have z12 : ((wt == 1) = true) ∨ ((wt == 1) = false ∧ (wt == 2) = true) := by
        rcases w12 with q | q
        · exact .inl (beq_iff_eq.2 q)
        · exact .inr ⟨by rw [q]; rfl, beq_iff_eq.2 q⟩
      by_cases a6 : n = toks.length
      · have HN := NO.out False id (fun m h1 h2 => by
          obtain ⟨t, h3, -⟩ := h2.wat (by omega)
          have := (List.getElem?_eq_some_iff.1 h3).1
          omega)
        have x6 : decide ((n : Int) < (toks.length : Int)) = false := decide_eq_false (by omega)
        have x6n : decide (n < toks.length) = false := decide_eq_false (by omega)
        have x6p : ¬ ((n : Int) < (toks.length : Int)) := by omega
        clear a1 hTX a2 a6 w0 w12
        rcases z12 with z1 | ⟨z1, z2⟩
        · go_wp2_with (first
            | (go_at_call 73; refine CF'.out.mono ?_; rintro e w2 ⟨rfl, hw⟩; rw [hw]; clear hw))
          go_ret
          exact ⟨by rw [HN.out]; rfl, BX.out⟩
        · go_wp2_with (first
            | (go_at_call 73; refine CF'.out.mono ?_; rintro e w2 ⟨rfl, hw⟩; rw [hw]; clear hw))
          go_ret
          exact ⟨by rw [HN.out]; rfl, BX.out⟩
      · have x6 : decide ((n : Int) < (toks.length : Int)) = true := decide_eq_true (by omega)
        have x6n : decide (n < toks.length) = true := decide_eq_true (by omega)
        have x6p : (n : Int) < (toks.length : Int) := by omega
        have i0 : (0 : Int) ≤ (n : Int) := by omega
        obtain ⟨t, ht5⟩ : ∃ t, toks[n]? = some t := ⟨_, List.getElem?_eq_getElem (by omega)⟩
        obtain ⟨tb, td, tc, e3, h1, h2⟩ := hTX.cells (by omega)
        simp only [Value.slice.injEq] at e3
        obtain ⟨rfl, -, rfl⟩ := e3
        have HI : TkIn X tb td toks := ⟨h1, h2⟩
        have hk5 := (HI.four n t ht5).1
        have HN : Hid (ok = (t.kind == 16)) := by
          unfold Hid
          by_cases q : t.kind = 16
          · rw [← HOK.out, okB_loop (opn := o) (by omega : n ≤ toks.length) (by omega) (by omega) (fun _ => ⟨t, ht5, q⟩), HALL.out]
            exact (beq_iff_eq.2 q).symm
          · have := NO.out False id (fun m h1 h2 => by
              obtain ⟨t2, h3, h4⟩ := h2.wat (by omega)
              have e : n = m := by omega
              subst e
              rw [ht5] at h3
              cases h3
              exact q h4)
            rw [this.out]
            exact (beq_eq_false_iff_ne.2 q).symm
        clear a1 hTX a2 a6 w0 w12 HI h1 h2 ht5 x6 x2p
        rcases z12 with z1 | ⟨z1, z2⟩
        · go_wp2_with (first
            | (go_at_call 73; refine CF'.out.mono ?_; rintro e w2 ⟨rfl, hw⟩; rw [hw]; clear hw))
          go_ret
          exact ⟨by rw [HN.out]; rfl, BX.out⟩
        · go_wp2_with (first
            | (go_at_call 73; refine CF'.out.mono ?_; rintro e w2 ⟨rfl, hw⟩; rw [hw]; clear hw))
          go_ret
          exact ⟨by rw [HN.out]; rfl, BX.out⟩
    · have HN := NO.out False id (fun m h1 h2 => by have := h2.wlo; have := h2.whi; omega)
      have z1 : (wt == 1) = false := beq_eq_false_iff_ne.2 (fun q => w12 (.inl q))
      have z2 : (wt == 2) = false := beq_eq_false_iff_ne.2 (fun q => w12 (.inr q))
      clear a1 hTX a2 w0 w12
      go_wp2_with (first
        | (go_at_call 73; refine CF'.out.mono ?_; rintro e w2 ⟨rfl, hw⟩; rw [hw]; clear hw))
      go_ret
      exact ⟨by rw [HN.out]; rfl, BX.out⟩
end Go.Proofs.Ytmgclgojmckfhaa.Lay
