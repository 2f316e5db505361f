/-
  offsidelaw08's law MarkNone, where the program's Opens, Mark and Bare do what is told of them by the structure Does. Conditions: at most 2^37 texts of at most 4294967280 bytes each.
-/
import Derived.Test.YthjckmoobbpidaaMrkOnc
namespace Go.Proofs.Ythjckmoobbpidaa.Mrk
open Tks Go.RowKit
set_option linter.unusedSimpArgs false
set_option linter.unusedVariables false

/-- The texts that a slice holds. -/
def StrArg (w : World) (v : Value) (l : List ByteArray) : Prop :=
  (l = [] ∧ ∃ a c, v = .slice a 0 c) ∨
  (∃ b off c, v = .slice (some ⟨b, off, none⟩) l.length c ∧ b < w.heap.size ∧ ∀ (i : Nat) (s : ByteArray), l[i]? = some s → w.cell? ⟨b, off + i, none⟩ = some (.string s))
theorem StrArg.len {w : World} {v : Value} {l : List ByteArray} (h : StrArg w v l) : ∃ a c, v = .slice a l.length c := by
  rcases h with ⟨rfl, a, c, rfl⟩ | ⟨b, off, c, rfl, -⟩
  · exact ⟨a, c, rfl⟩
  · exact ⟨_, c, rfl⟩
theorem StrArg.below {w w' : World} {v : Value} {l : List ByteArray} {B : Nat} (h : StrArg w v l) (hb : Below B w w') (hB : w.heap.size ≤ B) : StrArg w' v l := by
  rcases h with h | ⟨b, off, c, hv, hlt, hc⟩
  · exact .inl h
  · exact .inr ⟨b, off, c, hv, Nat.lt_of_lt_of_le hlt hb.size, fun i s hs => (World.cell?_of_block (hb.block b (Nat.lt_of_lt_of_le hlt hB))).trans (hc i s hs)⟩
def varsOf (line col : Int) (ts : List ByteArray) : List Tk := ts.map fun s => ⟨1, s, line, col⟩
theorem vars_next {line col : Int} {ts : List ByteArray} {k : Nat} {s : ByteArray} (h : ts[k]? = some s) : varsOf line col (ts.take (k + 1)) = varsOf line col (ts.take k) ++ [⟨1, s, line, col⟩] := by
  unfold varsOf
  rw [List.take_add_one, h, List.map_append]
  rfl
theorem vars_len (line col : Int) (ts : List ByteArray) : (varsOf line col ts).length = ts.length := List.length_map ..
/-- All but the first token of a slice. -/
theorem arg_tail {w : World} {g o c : Nat} {t : Tk} {l : List Tk} (h : TkIn w g o (t :: l)) : TkArg w (.slice (some ⟨g, o + 4, none⟩) l.length c) l := by
  refine .inr ⟨g, o + 4, c, rfl, h.1, fun i x hx k hk => ?_⟩
  rw [← h.2 (i + 1) x (by simpa using hx) k hk]
  congr 2
  omega
set_option maxRecDepth 1000000 in
set_option maxHeartbeats 8000000 in
theorem none_walk (nl : ByteArray → Int) (M : World → Prop) (D : Does nl M) (v : Value) (ts : List ByteArray) (line col : Int) (w : World) (ha : StrArg w v ts) (F : Small (varsOf line col ts)) (hM : M w) :
    Calls Try.prog 8 #[v, .int .i64 line, .int .i64 col] w fun e w' => e = .returned (.bool true) ∧ Below w.heap.size w w' := by
  have C0 := Lib.hid (fun W h => awake_any nl M D W h)
  have KM : Hid (∀ W', Below w.heap.size w W' → M W') := fun W' h => D.keep w W' hM h
  obtain ⟨a, c, rfl⟩ := ha.len
  have C1 := Lib.hid (fun v W g h => D.mark v _ W g h F)
  have hl := F.1
  rw [vars_len] at hl
  have C3 := Lib.hid (fun va vb W h1 h2 => sameall_any va vb (varsOf line col ts) W h1 h2 (by rw [vars_len]; omega))
  have HM := Lib.hid hl
  have HA := Lib.hid ha
  clear D F ha hl hM
  go_enter Try.func8, Try.ntmps8
  go_wp2_with (first
    | (go_at_call 9; refine (C0.out _ (KM.out _ (Below.refl _ _))).mono ?_; rintro e w1 ⟨rfl, hb1⟩; have B1 := Lib.hid hb1; have A1 := Lib.hid (HA.out.below hb1 (Nat.le_refl _)); clear hb1))
  go_loopw [8, 9] (fun o i wr => ∃ k : Nat, i = .int .i64 (k : Int) ∧ k ≤ ts.length ∧ Own wr w1.heap.size o (varsOf line col (ts.take k)) ∧ Below w1.heap.size w1 wr) (fun _ i _ => ts.length - (intOf i).toNat)
  case atStart => exact ⟨0, rfl, by omega, Own.nil _ _, Below.refl _ _⟩
  case round =>
    obtain ⟨k, rfl, hk, ho, hb⟩ := hrel
    have HO := Lib.hid ho
    have HB := Lib.hid hb
    clear ho hb
    by_cases hp : k < ts.length
    · obtain ⟨s, hs⟩ : ∃ s, ts[k]? = some s := ⟨_, List.getElem?_eq_getElem hp⟩
      have A2 := Lib.hid (A1.out.below HB.out (Nat.le_refl _))
      obtain ⟨ga, oa, ca, e1, h1, h2⟩ : ∃ b off q, (Value.slice a ts.length c) = .slice (some ⟨b, off, none⟩) ts.length q ∧ b < wr.heap.size ∧ ∀ (i : Nat) (s : ByteArray), ts[i]? = some s → wr.cell? ⟨b, off + i, none⟩ = some (.string s) := by
        rcases A2.out with ⟨h, -⟩ | h
        · rw [h] at hp
          exact absurd hp (by simp)
        · exact h
      simp only [Value.slice.injEq] at e1
      obtain ⟨rfl, -, rfl⟩ := e1
      have a0 := h2 k s hs
      have HW := Lib.hid (idx_at k ts.length hp (Nat.le_trans HM.out (by decide)))
      have hw4 : IntKind.i64.wrap ((k : Int) + 1) = (k : Int) + 1 := by rw [IntWalk.i64_left]; exact HW.out
      have hw5 : wrap64 ((k : Int) + 1) = (k : Int) + 1 := HW.out
      have HN := Lib.hid (vars_next (line := line) (col := col) hs)
      have hlen : Hid ((varsOf line col (ts.take k)).length ≤ k) := by unfold Hid; rw [vars_len]; exact List.length_take_le k ts
      clear hs h1 h2
      go_wp2_with (first | (at_builtin; refine push_one w1 _ rfl _ _ rfl _ _ rfl (by exact HO.out) HB.out ⟨1, s, line, col⟩ _ _ rfl (by have := hlen.out; have := HM.out; omega) ?_; intro v2 W2 o2 b2; have O2 := Lib.hid o2; have B2 := Lib.hid b2; clear o2 b2))
      refine ⟨by first | exact ⟨k + 1, by go_num, by omega, by rw [HN.out]; exact O2.out, B2.out⟩ | ((repeat apply Exists.intro); exact ⟨⟨k + 1, by go_num, by omega, by rw [HN.out]; exact O2.out, B2.out⟩, rfl⟩), ?_⟩
      simp [intOf]
      omega
    · have hk2 : k = ts.length := by omega
      have htk : ts.take k = ts := List.take_of_length_le (by omega)
      have ho := HO.out
      rw [htk] at ho
      have HO2 := Lib.hid ho
      clear ho HO htk hk2
      cases ts with
      | nil =>
        have HMK : Hid (markL nl (varsOf line col []) = [lastM]) := mark_nil nl
        obtain ⟨p, q, e1⟩ := HO2.out.arg.len
        have e1 : u8 = .slice p 0 q := e1
        subst e1
        go_wp2_with (first
          | (go_at_call 13; refine (C1.out _ _ (KM.out _ (after B1.out HB.out)) HO2.out.arg).mono ?_; rintro e w2 ⟨r2, rfl, hr2, hb2, -⟩; rw [HMK.out] at hr2; have B2 := Lib.hid (after B1.out (after HB.out hb2)); obtain ⟨g, o, z, e2, g1, g2⟩ := hr2.cells (by decide); have e2 : r2 = .slice (some ⟨g, o, none⟩) 1 z := e2; subst e2; have HI : Hid (TkIn w2 g o [lastM]) := ⟨g1, g2⟩; obtain ⟨b0, b1, b2, b3⟩ := HI.out.four 0 lastM rfl; dsimp only [lastM, empty] at b0 b1 b2 b3; simp only [Nat.zero_mul, Nat.add_zero] at b0 b1 b2 b3; clear hb2 hr2 g1 g2))
        go_ret
        exact ⟨rfl, B2.out⟩
      | cons s0 ts =>
        have hmk := mark_none nl ⟨1, s0, line, col⟩ (varsOf line col ts) (fun u hu => by
          rcases List.mem_cons.1 hu with rfl | hu
          · exact ⟨rfl, rfl⟩
          · obtain ⟨s, -, rfl⟩ := List.mem_map.1 hu
            exact ⟨rfl, rfl⟩)
        have HMK : Hid (markL nl (varsOf line col (s0 :: ts)) = beginM ⟨1, s0, line, col⟩ :: varsOf line col (s0 :: ts)) := hmk
        clear hmk
        have hlt1 : decide ((k : Int) < ((s0 :: ts).length : Int)) = false := decide_eq_false (by omega)
        have hlt2 : decide ((k : Int) < (ts.length : Int) + 1) = false := decide_eq_false (by simp only [List.length_cons] at hp; omega)
        have hlen : (varsOf line col (s0 :: ts)).length = ts.length + 1 := vars_len _ _ _
        have hm := HM.out
        simp only [List.length_cons] at hm
        obtain ⟨n, hn⟩ : ∃ n, ts.length + 1 = n := ⟨_, rfl⟩
        rw [hn] at hlen hm
        have hn0 : 0 < n := by omega
        generalize varsOf line col (s0 :: ts) = L at *
        obtain ⟨p, q, e1⟩ := HO2.out.arg.len
        rw [hlen] at e1
        subst e1
        have x0 : ((n : Int) == 0) = false := by rw [beq_eq_false_iff_ne]; omega
        have hw6 : IntKind.i64.wrap ((n : Int) + 1) = (n : Int) + 1 := by rw [IntWalk.i64_left]; exact IntWalk.wrap64_in _ ⟨by omega, by omega⟩
        have hw7 : wrap64 ((n : Int) + 1) = (n : Int) + 1 := IntWalk.wrap64_in _ ⟨by omega, by omega⟩
        have hle : (1 : Int) ≤ (n : Int) + 1 := by omega
        have HL := Lib.hid hlen
        have HN0 := Lib.hid hn0
        clear hlen hm hn hn0
        go_wp2_with fail
        refine (C1.out _ _ (KM.out _ (after B1.out HB.out)) HO2.out.arg).mono ?_
        rintro e w2 ⟨r2, rfl, hr2, hb2, hft⟩
        rw [HMK.out] at hr2
        have B2 := Lib.hid (after B1.out (after HB.out hb2))
        have AR := Lib.hid (HO2.out.arg.below hb2 (Nat.le_refl _))
        obtain ⟨g, o, z, e2, g1, g2⟩ := hr2.cells (by simp)
        rw [List.length_cons, HL.out] at e2
        subst e2
        have hz : n + 1 ≤ z := hft _ _ _ rfl
        have hzi : (n : Int) + 1 ≤ (z : Int) := by omega
        have hz0 : ¬ z = 1 := by
          have := HN0.out
          omega
        have HI : Hid (TkIn w2 g o (beginM ⟨1, s0, line, col⟩ :: L)) := ⟨g1, g2⟩
        obtain ⟨b0, b1, b2, b3⟩ := HI.out.four 0 (beginM ⟨1, s0, line, col⟩) rfl
        dsimp only [beginM, empty] at b0 b1 b2 b3
        simp only [Nat.zero_mul, Nat.add_zero] at b0 b1 b2 b3
        clear hb2 hr2 g1 g2 hft
        go_wp2_with (first
          | (go_at_call 12; refine (C3.out _ _ _ (by have h := arg_tail (c := z - 1) HI.out; rw [HL.out] at h; exact h) AR.out).mono ?_; rintro e w3 ⟨rfl, hb3⟩; have B3 := Lib.hid (after B2.out hb3); clear hb3))
        go_ret
        exact ⟨rfl, B3.out⟩
end Go.Proofs.Ythjckmoobbpidaa.Mrk
