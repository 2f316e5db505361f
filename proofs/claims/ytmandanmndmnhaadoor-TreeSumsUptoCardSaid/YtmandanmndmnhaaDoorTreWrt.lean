/-
  What the program writes of a node: valid, plain, writeLeaf, writeHead. Conditions: texts of at most 2^46 bytes.
-/
import Derived.Test.YtmandanmndmnhaaDoorTreLvs
import Derived.Test.YtmandanmndmnhaaDoorTreSho
import Derived.Test.YtmandanmndmnhaaDoorQtBld
namespace Go.Proofs.YtmandanmndmnhaaDoor.Tre
open Tks Go.RowKit
open Qt (Bld)
set_option linter.unusedSimpArgs false
set_option linter.unusedVariables false

/-- What a call may have turned that writes into the builder in block b. -/
structure Wrote (B b : Nat) (w w' : World) : Prop where
  bel : Below B w w'
  oth : Lib.OthersKept 5 (some b) w w'
theorem Wrote.refl (B b : Nat) (w : World) : Wrote B b w w := ⟨Below.refl _ _, Lib.OthersKept.refl _ _ _⟩
theorem Wrote.trans {B b : Nat} {a c d : World} (h : Wrote B b a c) (k : Wrote B b c d) : Wrote B b a d := ⟨h.bel.trans k.bel, h.oth.trans k.oth⟩
theorem Wrote.of_below {B b C : Nat} {w w' : World} (h : Below C w w') (hC : w.heap.size ≤ C) (hB : B ≤ C) : Wrote B b w w' :=
  ⟨h.mono hB, fun k o hk _ _ => (h.block k (Nat.lt_of_lt_of_le (Array.getElem?_eq_some_iff.1 hk).1 hC)).trans hk⟩
theorem Wrote.size {B b : Nat} {w w' : World} (h : Wrote B b w w') : w.heap.size ≤ w'.heap.size := h.bel.size
theorem Wrote.node {B b k : Nat} {w w' : World} {h : Hd} {vk : Value} (hw : Wrote B b w w') (hl : Lies w k (ndO h vk)) (hb : k ≠ b) : Lies w' k (ndO h vk) :=
  hw.oth k _ hl (fun e => hb (by injection e)) (fun c fz e => by
    unfold ndO at e
    injection e with _ e2
    exact absurd e2 (by decide))
theorem Wrote.one {B b k : Nat} {w w' : World} {v : Value} {t : TypeId} (hw : Wrote B b w w') (hl : One w k v t) (hb : k ≠ b) (ht : t ≠ 5) : One w' k v t :=
  hw.oth k _ hl (fun e => hb (by injection e)) (fun c fz e => by
    injection e with _ e2
    exact ht e2)
theorem wbyteK (B b : Nat) (bs : List UInt8) (c : UInt8) (w : World) (h : Bld B b bs w) (hlen : bs.length + 1 ≤ 140737488355328) (hBw : B ≤ w.heap.size) :
    Calls Tryd.prog 34 #[.pointer (some ⟨b, 0, none⟩), .int .u8 (c.toNat : Int)] w fun e w' => e = .returned .nilIface ∧ Bld B b (bs ++ [c]) w' ∧ Wrote B b w w' := by
  refine (Any.Builder_WriteByte_k Tryd.bld167 Tryd.bldX B b (Lib.byteCells bs) (c.toNat : Int) w h (by rw [Lib.byteCells_length]; exact hlen) hBw).mono ?_
  rintro e w' ⟨rfl, h1, h2, h3⟩
  refine ⟨rfl, ?_, h2, h3⟩
  unfold Bld
  rw [Lib.byteCells_append]
  exact .inr h1
theorem wstrK (B b : Nat) (bs : List UInt8) (s : ByteArray) (w : World) (h : Bld B b bs w) (hlen : bs.length + s.size ≤ 140737488355328) (hBw : B ≤ w.heap.size) :
    Calls Tryd.prog 43 #[.pointer (some ⟨b, 0, none⟩), .string s] w fun e w' => e = .returned (.tuple #[.int .i64 s.size, .nilIface]) ∧ Bld B b (bs ++ s.data.toList) w' ∧ Wrote B b w w' := by
  refine (Any.Builder_WriteString_k Tryd.bld166 Tryd.bldX B b (Lib.byteCells bs) s w h (by rw [Lib.byteCells_length]; exact hlen) hBw).mono ?_
  rintro e w' ⟨rfl, h1, h2, h3⟩
  refine ⟨rfl, ?_, h2, h3⟩
  unfold Bld
  rw [Lib.byteCells_append, ← Lib.strCells_eq]
  exact .inr h1
theorem dec_dig : ∀ n : Fin 100, Lib.decDigits n.val = digL n.val := by decide +kernel
theorem itoaK (n : Nat) (hn : n < 100) (w : World) : Calls Tryd.prog 44 #[.int .i64 (n : Int)] w fun e w' => e = .returned (.string ⟨(digL n).toArray⟩) ∧ w' = w := by
  have h := Any.strconv_Itoa_small Tryd.lays171 n hn w
  rw [dec_dig ⟨n, hn⟩] at h
  exact h
theorem plain_any (c : UInt8) (w : World) : Calls Tryd.prog 45 #[.int .u8 (c.toNat : Int)] w fun e w' => e = .returned (.bool (plainB c)) ∧ w' = w := by
  cases hp : plainB c with
  | true =>
    obtain ⟨h1, h2, h3, h4⟩ := plain_facts9 hp
    clear hp
    go_enter Tryd.func45, Tryd.ntmps45
    go_wp2_with fail
    go_ret
    exact ⟨rfl, rfl⟩
  | false =>
    have hc := nat_lt c
    rcases other_facts hp with h1 | h1
    · rcases h1 with h1 | h1
      · have d1 : decide ((32 : Int) ≤ (c.toNat : Int)) = false := decide_eq_false (by omega)
        clear hp
        go_enter Tryd.func45, Tryd.ntmps45
        go_wp2_with fail
        go_ret
        exact ⟨rfl, rfl⟩
      · have d1 : decide ((32 : Int) ≤ (c.toNat : Int)) = true := decide_eq_true (by omega)
        have d2 : decide ((c.toNat : Int) ≤ 126) = false := decide_eq_false (by omega)
        clear hp
        go_enter Tryd.func45, Tryd.ntmps45
        go_wp2_with fail
        go_ret
        exact ⟨rfl, rfl⟩
    · have d1 : decide ((32 : Int) ≤ (c.toNat : Int)) = true := decide_eq_true (by omega)
      have d2 : decide ((c.toNat : Int) ≤ 126) = true := decide_eq_true (by omega)
      rcases h1 with h1 | h1
      · have d3 : ((c.toNat : Int) != 34) = false := by rw [bne_eq_false_iff_eq]; omega
        clear hp
        go_enter Tryd.func45, Tryd.ntmps45
        go_wp2_with fail
        go_ret
        exact ⟨rfl, rfl⟩
      · have d3 : ((c.toNat : Int) != 34) = true := by rw [bne_iff_ne]; omega
        have d4 : ((c.toNat : Int) != 92) = false := by rw [bne_eq_false_iff_eq]; omega
        clear hp
        go_enter Tryd.func45, Tryd.ntmps45
        go_wp2_with fail
        go_ret
        exact ⟨rfl, rfl⟩
/-- May a node be, whatever its kids? -/
def validH (h : Hd) (n : Nat) : Bool :=
  if h.kind = 1 then decide (0 ≤ h.form) && (decide (h.form < 22) && (n == 0))
  else decide (1 ≤ h.kind) && (decide (h.kind < 54) && ((h.text.data.toList == []) && ((h.form == 0) || (h.form == 1))))
theorem right_valid (h : Hd) (n : Nat) (b : Bool) : rightN h n b = (validH h n && (decide (h.kind = 1) || b)) := by
  unfold rightN validH
  by_cases q : h.kind = 1
  · rw [if_pos q, if_pos q, decide_eq_true q, q]
    cases n == 0 <;> cases decide (0 ≤ h.form) <;> cases decide (h.form < 22) <;> rfl
  · rw [if_neg q, if_neg q, decide_eq_false q]
    have e : (decide (0 ≤ h.form) && decide (h.form ≤ 1)) = ((h.form == 0) || (h.form == 1)) := by
      rw [Bool.eq_iff_iff]
      simp only [Bool.and_eq_true, Bool.or_eq_true, decide_eq_true_eq, beq_iff_eq]
      omega
    rw [← Bool.and_assoc (decide (0 ≤ h.form)), e]
    cases decide (1 ≤ h.kind) <;> cases decide (h.kind < 54) <;> cases (h.text.data.toList == []) <;> cases ((h.form == 0) || (h.form == 1)) <;> cases b <;> rfl
set_option maxRecDepth 1000000 in
set_option maxHeartbeats 2000000 in
theorem valid_any (h : Hd) (k : Fo) (v : Value) (w : World) (hn : NdArg w v h k) :
    Calls Tryd.prog 31 #[v] w fun e w' => e = .returned (.bool (validH h (len k))) ∧ Below w.heap.size w w' := by
  obtain ⟨vk, rfl, hk⟩ := hn
  obtain ⟨a, c, rfl⟩ := hk.len
  clear hk
  obtain ⟨res, hres⟩ : ∃ res, validH h (len k) = res := ⟨_, rfl⟩
  have HR := Lib.hid hres
  rw [hres]
  unfold ndV
  clear hres
  go_enter Tryd.func31, Tryd.ntmps31
  go_upto_region 1 with fail
  refine gen_world (fun X => Below w.heap.size w X ∧ Lies X w.heap.size (ndO h (.slice a (len k) c))) ⟨below_one w _, Lies.new w _⟩ ?_
  rintro X ⟨bX, lX⟩
  have BX := Lib.hid bX
  obtain ⟨a0, a1, a2, a3, a4, a5⟩ := lX.node
  clear bX lX
  by_cases z0 : h.kind = 1
  · have z1 : (h.kind == 1) = true := beq_iff_eq.2 z0
    have HF : Hid ((decide (0 ≤ h.form) && (decide (h.form < 22) && (len k == 0))) = res) := by
      rw [← HR.out]
      unfold Hid validH
      rw [if_pos z0]
    clear z0 HR
    cases x1 : decide (0 ≤ h.form) with
    | false =>
      rw [x1] at HF
      go_wp2_with fail
      go_ret
      exact ⟨by rw [← HF.out]; rfl, BX.out⟩
    | true =>
      cases x2 : decide (h.form < 22) with
      | false =>
        rw [x1, x2] at HF
        go_wp2_with fail
        go_ret
        exact ⟨by rw [← HF.out]; rfl, BX.out⟩
      | true =>
        rw [x1, x2] at HF
        have x3 : ((len k : Int) == 0) = (len k == 0) := by rw [Bool.eq_iff_iff, beq_iff_eq, beq_iff_eq]; omega
        cases x4 : (len k == 0) with
        | false =>
          rw [x4] at HF x3
          go_wp2_with fail
          go_ret
          exact ⟨by rw [← HF.out]; rfl, BX.out⟩
        | true =>
          rw [x4] at HF x3
          go_wp2_with fail
          go_ret
          exact ⟨by rw [← HF.out]; rfl, BX.out⟩
  · have z1 : (h.kind == 1) = false := beq_eq_false_iff_ne.2 z0
    have HF : Hid ((decide (1 ≤ h.kind) && (decide (h.kind < 54) && ((h.text.data.toList == []) && ((h.form == 0) || (h.form == 1))))) = res) := by
      rw [← HR.out]
      unfold Hid validH
      rw [if_neg z0]
    clear z0 HR
    cases x1 : decide (1 ≤ h.kind) with
    | false =>
      rw [x1] at HF
      go_wp2_with fail
      go_ret
      exact ⟨by rw [← HF.out]; rfl, BX.out⟩
    | true =>
      cases x2 : decide (h.kind < 54) with
      | false =>
        rw [x1, x2] at HF
        go_wp2_with fail
        go_ret
        exact ⟨by rw [← HF.out]; rfl, BX.out⟩
      | true =>
        have x3 : (h.text.toList == []) = (h.text.data.toList == []) := by rw [Lib.toList_data]
        cases x4 : (h.text.data.toList == []) with
        | false =>
          rw [x1, x2, x4] at HF
          rw [x4] at x3
          go_wp2_with fail
          go_ret
          exact ⟨by rw [← HF.out]; rfl, BX.out⟩
        | true =>
          rw [x1, x2, x4] at HF
          rw [x4] at x3
          cases x5 : (h.form == 0) with
          | true =>
            rw [x5] at HF
            go_wp2_with fail
            go_ret
            exact ⟨by rw [← HF.out]; rfl, BX.out⟩
          | false =>
            cases x6 : (h.form == 1) with
            | false =>
              rw [x5, x6] at HF
              go_wp2_with fail
              go_ret
              exact ⟨by rw [← HF.out]; rfl, BX.out⟩
            | true =>
              rw [x5, x6] at HF
              go_wp2_with fail
              go_ret
              exact ⟨by rw [← HF.out]; rfl, BX.out⟩
end Go.Proofs.YtmandanmndmnhaaDoor.Tre
