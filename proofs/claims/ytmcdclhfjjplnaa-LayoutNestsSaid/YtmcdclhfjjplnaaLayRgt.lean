/-
  The document's own Right and Close at any states. Conditions: at most 2^40 tokens and blocks.
-/
import Derived.Test.YtmcdclhfjjplnaaLayRef
namespace Go.Proofs.Ytmcdclhfjjplnaa.Lay
open Tks Mrk Go.RowKit
set_option linter.unusedSimpArgs false
set_option linter.unusedVariables false

theorem okB_no {s : Sx} (h : ∀ n : Nat, s.at_ = n → ¬ Ok s.toks n s.opn s.wait) : okB s = false := by
  rw [Bool.eq_false_iff]
  intro e
  obtain ⟨n, h1, h2⟩ := (okB_iff s).1 e
  exact h n h1 h2
theorem okB_loop {toks : List Tk} {n : Nat} {opn : List Int} {wait : Int} (h1 : n ≤ toks.length) (h2 : 0 ≤ wait) (h3 : wait ≤ 2) (h4 : 0 < wait → ∃ t, toks[n]? = some t ∧ t.kind = 16) :
    okB ⟨toks, n, opn, wait⟩ = opn.all (fun c => decide (0 ≤ c)) := by
  rw [Bool.eq_iff_iff, okB_iff, List.all_eq_true]
  constructor
  · rintro ⟨m, -, h⟩ c hc
    exact decide_eq_true (h.opn c hc)
  · intro h
    exact ⟨n, rfl, h1, fun c hc => of_decide_eq_true (h c hc), h2, h3, h4⟩
set_option maxRecDepth 100000 in
set_option maxHeartbeats 4000000 in
theorem refright_any (v : Value) (s : Sx) (w : World) (hv : StV w v s) (hf : Fit9 s) :
    Calls Try.prog 23 #[v] w fun e w' => e = .returned (.bool (okB s)) ∧ Below w.heap.size w w' := by
  obtain ⟨toks, i, o, wt⟩ := s
  obtain ⟨vt, vo, rfl, ht, ho⟩ := hv
  obtain ⟨hf1, hf2⟩ := hf
  dsimp only at ht ho hf1 hf2 ⊢
  have B0 : Hid (∀ o1 : Obj, Below w.heap.size w (w.alloc o1)) := fun o1 => (Below.refl _ _).alloc (Nat.le_refl _) o1
  have no : ∀ P : Prop, ¬ P → (∀ n : Nat, i = n → Ok toks n o wt → P) → Hid (okB ⟨toks, i, o, wt⟩ = false) := fun P hP h => okB_no (fun n h1 h2 => hP (h n h1 h2))
  obtain ⟨at1, ct1, e1⟩ := ht.len
  obtain ⟨ao1, co1, e2⟩ := ho.len
  by_cases a1 : i < 0
  · have HN := no False id (fun n h1 h2 => by omega)
    subst e1 e2
    have x1 : decide (i < 0) = true := decide_eq_true a1
    clear no ht ho hf1 hf2 a1
    go_enter Try.func23, Try.ntmps23
    go_wp2_with fail
    go_ret
    exact ⟨by rw [HN.out]; rfl, B0.out _⟩
  have x1 : decide (i < 0) = false := decide_eq_false a1
  obtain ⟨n, rfl⟩ : ∃ n : Nat, i = n := ⟨i.toNat, by omega⟩
  by_cases a2 : toks.length < n
  · have HN := no False id (fun m h1 h2 => by have := h2.at_; omega)
    subst e1 e2
    have x2 : decide ((toks.length : Int) < (n : Int)) = true := decide_eq_true (by omega)
    have x2n : decide (toks.length < n) = true := decide_eq_true a2
    clear no ht ho hf1 hf2 a1 a2
    go_enter Try.func23, Try.ntmps23
    go_wp2_with fail
    go_ret
    exact ⟨by rw [HN.out]; rfl, B0.out _⟩
  have x2 : decide ((toks.length : Int) < (n : Int)) = false := decide_eq_false (by omega)
  have x2n : decide (toks.length < n) = false := decide_eq_false a2
  by_cases a3 : wt < 0
  · have HN := no False id (fun m h1 h2 => by have := h2.wlo; omega)
    subst e1 e2
    have x3 : decide (wt < 0) = true := decide_eq_true a3
    clear no ht ho hf1 hf2 a1 a2 a3
    go_enter Try.func23, Try.ntmps23
    go_wp2_with fail
    go_ret
    exact ⟨by rw [HN.out]; rfl, B0.out _⟩
  have x3 : decide (wt < 0) = false := decide_eq_false a3
  by_cases a4 : 2 < wt
  · have HN := no False id (fun m h1 h2 => by have := h2.whi; omega)
    subst e1 e2
    have x4 : decide (2 < wt) = true := decide_eq_true a4
    clear no ht ho hf1 hf2 a1 a2 a3 a4
    go_enter Try.func23, Try.ntmps23
    go_wp2_with fail
    go_ret
    exact ⟨by rw [HN.out]; rfl, B0.out _⟩
  have x4 : decide (2 < wt) = false := decide_eq_false a4
  by_cases a5 : 0 < wt
  · have x5 : decide (0 < wt) = true := decide_eq_true a5
    by_cases a6 : n = toks.length
    · have HN := no False id (fun m h1 h2 => by
        obtain ⟨t, h3, -⟩ := h2.wat a5
        have := (List.getElem?_eq_some_iff.1 h3).1
        omega)
      subst e1 e2
      have x6 : ((n : Int) == (toks.length : Int)) = true := by rw [beq_iff_eq]; omega
      have x6n : (n == toks.length) = true := by rw [beq_iff_eq]; omega
      clear no ht ho hf1 hf2 a1 a2 a3 a4 a5 a6
      go_enter Try.func23, Try.ntmps23
      go_wp2_with fail
      go_ret
      exact ⟨by rw [HN.out]; rfl, B0.out _⟩
    have x6 : ((n : Int) == (toks.length : Int)) = false := by rw [beq_eq_false_iff_ne]; omega
    have x6n : (n == toks.length) = false := by rw [beq_eq_false_iff_ne]; omega
    obtain ⟨t, ht5⟩ : ∃ t, toks[n]? = some t := ⟨_, List.getElem?_eq_getElem (by omega)⟩
    obtain ⟨tb, to, tc, e3, h1, h2⟩ := ht.cells (by omega)
    rw [e1] at e3
    simp only [Value.slice.injEq] at e3
    obtain ⟨rfl, -, rfl⟩ := e3
    have HI : TkIn w tb to toks := ⟨h1, h2⟩
    have hk5 := (HI.four n t ht5).1
    have d5 := fun p : Obj => (World.cell?_alloc_lt w (o := p) (a := ⟨tb, to + n * 4, none⟩) h1).trans hk5
    have ne6 : ¬ tb = w.heap.size := by omega
    have j0 : (0 : Int) ≤ (n : Int) := by omega
    have j1 : (n : Int) < (toks.length : Int) := by omega
    by_cases a7 : t.kind = 16
    · have x7 : (t.kind != 16) = false := by rw [a7]; rfl
      have HK := Lib.hid (okB_loop (opn := o) (by omega : n ≤ toks.length) (by omega : 0 ≤ wt) (by omega) (fun _ => ⟨t, ht5, a7⟩))
      subst e1 e2
      have HO := Lib.hid ho
      have HF := Lib.hid hf2
      clear no ht ho hf1 hf2 a1 a2 a3 a4 a5 a6 a7 HI hk5 h1 h2 ht5
      go_enter Try.func23, Try.ntmps23
      go_wp2_with fail
      go_loopw [3] (fun iv wr => ∃ k : Nat, iv = .int .i64 (k : Int) ∧ wr = w.alloc (stO (.slice (some ⟨tb, to, none⟩) toks.length ct1) (n : Int) (.slice ao1 o.length co1) wt) ∧ k ≤ o.length ∧ ∀ j x, j < k → o[j]? = some x → 0 ≤ x) (fun iv _ => o.length - (intOf iv).toNat)
      case atStart => exact ⟨0, rfl, rfl, by omega, fun j x hj => absurd hj (by omega)⟩
      case round =>
        obtain ⟨k, rfl, rfl, hk, hno⟩ := hrel
        have HNO := Lib.hid hno
        clear hno
        unfold stO
        by_cases hp : k < o.length
        · obtain ⟨x, hx⟩ : ∃ x, o[k]? = some x := ⟨_, List.getElem?_eq_getElem hp⟩
          obtain ⟨gb, go, gc, e5, -, hlt5, hc5⟩ := HO.out.cells (by omega)
          simp only [Value.slice.injEq] at e5
          obtain ⟨rfl, -, rfl⟩ := e5
          have c5 := fun p : Obj => (World.cell?_alloc_lt w (o := p) (a := ⟨gb, go + k, none⟩) hlt5).trans (hc5 k x hx)
          have HX := Lib.hid hx
          have hw4 : IntKind.i64.wrap ((k : Int) + 1) = (k : Int) + 1 := by rw [IntWalk.i64_left]; exact idx_at k o.length hp (Nat.le_trans HF.out (by decide))
          have hw5 : wrap64 ((k : Int) + 1) = (k : Int) + 1 := idx_at k o.length hp (Nat.le_trans HF.out (by decide))
          have i0 : (0 : Int) ≤ (k : Int) := by omega
          have i1 : (k : Int) < (o.length : Int) := by omega
          have ne5 : ¬ gb = w.heap.size := by omega
          clear hc5 hx
          by_cases hx0 : x < 0
          · have y0 : decide (x < 0) = true := decide_eq_true hx0
            have HA : Hid (o.all (fun c => decide (0 ≤ c)) = false) := by
              unfold Hid
              rw [List.all_eq_false]
              exact ⟨x, List.mem_of_getElem? HX.out, by simp; omega⟩
            clear hx0
            go_wp2_with fail
            go_ret
            exact ⟨by rw [HK.out, HA.out]; rfl, B0.out _⟩
          · have y0 : decide (x < 0) = false := decide_eq_false hx0
            have HN2 : Hid (∀ j y, j < k + 1 → o[j]? = some y → 0 ≤ y) := fun j y hj hy => by
              by_cases q : j = k
              · subst q
                rw [HX.out] at hy
                cases hy
                omega
              · exact HNO.out j y (by omega) hy
            clear hx0
            go_wp2_with fail
            go_roundw
            case rel => exact ⟨k + 1, by go_num, by first | rfl | trivial, by omega, HN2.out⟩
            case measure => simp [intOf]; omega
        · have HA : Hid (o.all (fun c => decide (0 ≤ c)) = true) := by
            unfold Hid
            rw [List.all_eq_true]
            intro c hc
            obtain ⟨j, hj⟩ := List.mem_iff_getElem?.1 hc
            exact decide_eq_true (HNO.out j c (by have := (List.getElem?_eq_some_iff.1 hj).1; omega) hj)
          have lt1 : decide ((k : Int) < (o.length : Int)) = false := decide_eq_false (by omega)
          have lt2 : decide (k < o.length) = false := decide_eq_false hp
          go_wp2_with fail
          go_ret
          exact ⟨by rw [HK.out, HA.out]; rfl, B0.out _⟩
    · have x7 : (t.kind != 16) = true := by rw [bne_iff_ne]; exact a7
      have HN := no False id (fun m h1 h2 => by
        obtain ⟨u, h3, h4⟩ := h2.wat a5
        have : m = n := by omega
        subst this
        rw [ht5] at h3
        cases h3
        exact a7 h4)
      subst e1 e2
      clear no ht ho hf1 hf2 a1 a2 a3 a4 a5 a6 a7 HI hk5 h1 h2 ht5
      go_enter Try.func23, Try.ntmps23
      go_wp2_with fail
      go_ret
      exact ⟨by rw [HN.out]; rfl, B0.out _⟩
  · obtain rfl : wt = 0 := by omega
    have x5 : decide ((0 : Int) < 0) = false := rfl
    have HK := Lib.hid (okB_loop (opn := o) (by omega : n ≤ toks.length) (by omega : (0 : Int) ≤ 0) (by omega) (fun q => absurd q (by decide)))
    subst e1 e2
    have HO := Lib.hid ho
    have HF := Lib.hid hf2
    clear no ht ho hf1 hf2 a1 a2 a3 a4 a5
    go_enter Try.func23, Try.ntmps23
    go_wp2_with fail
    go_loopw [3] (fun iv wr => ∃ k : Nat, iv = .int .i64 (k : Int) ∧ wr = w.alloc (stO (.slice at1 toks.length ct1) (n : Int) (.slice ao1 o.length co1) 0) ∧ k ≤ o.length ∧ ∀ j x, j < k → o[j]? = some x → 0 ≤ x) (fun iv _ => o.length - (intOf iv).toNat)
    case atStart => exact ⟨0, rfl, rfl, by omega, fun j x hj => absurd hj (by omega)⟩
    case round =>
      obtain ⟨k, rfl, rfl, hk, hno⟩ := hrel
      have HNO := Lib.hid hno
      clear hno
      unfold stO
      by_cases hp : k < o.length
      · obtain ⟨x, hx⟩ : ∃ x, o[k]? = some x := ⟨_, List.getElem?_eq_getElem hp⟩
        obtain ⟨gb, go, gc, e5, -, hlt5, hc5⟩ := HO.out.cells (by omega)
        simp only [Value.slice.injEq] at e5
        obtain ⟨rfl, -, rfl⟩ := e5
        have c5 := fun p : Obj => (World.cell?_alloc_lt w (o := p) (a := ⟨gb, go + k, none⟩) hlt5).trans (hc5 k x hx)
        have HX := Lib.hid hx
        have hw4 : IntKind.i64.wrap ((k : Int) + 1) = (k : Int) + 1 := by rw [IntWalk.i64_left]; exact idx_at k o.length hp (Nat.le_trans HF.out (by decide))
        have hw5 : wrap64 ((k : Int) + 1) = (k : Int) + 1 := idx_at k o.length hp (Nat.le_trans HF.out (by decide))
        have i0 : (0 : Int) ≤ (k : Int) := by omega
        have i1 : (k : Int) < (o.length : Int) := by omega
        have ne5 : ¬ gb = w.heap.size := by omega
        clear hc5 hx
        by_cases hx0 : x < 0
        · have y0 : decide (x < 0) = true := decide_eq_true hx0
          have HA : Hid (o.all (fun c => decide (0 ≤ c)) = false) := by
            unfold Hid
            rw [List.all_eq_false]
            exact ⟨x, List.mem_of_getElem? HX.out, by simp; omega⟩
          clear hx0
          go_wp2_with fail
          go_ret
          exact ⟨by rw [HK.out, HA.out]; rfl, B0.out _⟩
        · have y0 : decide (x < 0) = false := decide_eq_false hx0
          have HN2 : Hid (∀ j y, j < k + 1 → o[j]? = some y → 0 ≤ y) := fun j y hj hy => by
            by_cases q : j = k
            · subst q
              rw [HX.out] at hy
              cases hy
              omega
            · exact HNO.out j y (by omega) hy
          clear hx0
          go_wp2_with fail
          go_roundw
          case rel => exact ⟨k + 1, by go_num, by first | rfl | trivial, by omega, HN2.out⟩
          case measure => simp [intOf]; omega
      · have HA : Hid (o.all (fun c => decide (0 ≤ c)) = true) := by
          unfold Hid
          rw [List.all_eq_true]
          intro c hc
          obtain ⟨j, hj⟩ := List.mem_iff_getElem?.1 hc
          exact decide_eq_true (HNO.out j c (by have := (List.getElem?_eq_some_iff.1 hj).1; omega) hj)
        have lt1 : decide ((k : Int) < (o.length : Int)) = false := decide_eq_false (by omega)
        have lt2 : decide (k < o.length) = false := decide_eq_false hp
        go_wp2_with fail
        go_ret
        exact ⟨by rw [HK.out, HA.out]; rfl, B0.out _⟩
end Go.Proofs.Ytmcdclhfjjplnaa.Lay
