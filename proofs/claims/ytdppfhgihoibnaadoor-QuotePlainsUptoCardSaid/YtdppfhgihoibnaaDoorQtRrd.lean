/-
  The contract of the document's own Read. Conditions: the string has at most 2^50 bytes; its characters are at most 2^44.
-/
import Derived.Test.YtdppfhgihoibnaaDoorQtOne
namespace Go.Proofs.YtdppfhgihoibnaaDoor.Qt
open Go.RowKit Gly
open Wrd (rn wd)
set_option linter.unusedSimpArgs false
set_option linter.unusedVariables false

theorem results_tmp4 {fn : Func} {t u v x : Tmp} (h : fn.results = #[.tmp t, .tmp u, .tmp v, .tmp x]) (tmps : Array Value) (P : Program) (w : World) :
    (results fn tmps).run P w = .ok (.tuple #[tmps.getD t undef, tmps.getD u undef, tmps.getD v undef, tmps.getD x undef]) w := by
  simp [results, h]

/-- What Read answers: the error makes the kind and the row. -/
def RdOut (k : Int) (X : List Nat) (E : Nat) (x : Int) (w : World) (e : Ending) (w' : World) : Prop :=
  ∃ v, e = .returned (.tuple #[.int .i64 k, v, .int .i64 (E : Int), .int .i64 x]) ∧ Ints w' w.heap.size v X ∧ Below w.heap.size w w'

set_option maxRecDepth 20000 in
theorem refread_text (s : ByteArray) (n F : Nat) (hs : s.size ≤ 1125899906842624) (hn : n < s.size) (h34 : s[n].toNat = 34) (hF : s.size < n + 1 + F) (X : List Nat) (P : Nat) (x : Int)
    (hX : chs (txtL F (rest s (n + 1))).ps = X) (hP : (txtL F (rest s (n + 1))).pos = P) (hx : (txtL F (rest s (n + 1))).err = x) (hl : X.length ≤ 17592186044416) (w : World) :
    Calls Tryd.prog 23 #[.string s, .int .i64 (n : Int)] w (RdOut (if x = 0 then 14 else 0) (if x = 0 then X else []) (n + 1 + P) x w) := by
  obtain ⟨i0, hi, hz0, hz1, hz2⟩ := info_parts infoInt
  obtain ⟨kk, hkk⟩ : ∃ kk : Int, (if x = 0 then 14 else 0) = kk := ⟨_, rfl⟩
  obtain ⟨Y, hY⟩ : ∃ Y, (if x = 0 then X else []) = Y := ⟨_, rfl⟩
  rw [hkk, hY]
  have HK := Lib.hid hkk
  have HY := Lib.hid hY
  clear hkk hY
  have HX := Lib.hid hX
  have HP := Lib.hid hP
  have HE := Lib.hid hx
  have HL := Lib.hid hl
  have x3 : decide ((n : Int) < 0) = false := decide_eq_false (by omega)
  have x4 : decide ((s.size : Int) ≤ (n : Int)) = false := decide_eq_false (by omega)
  have x5 : decide (s.size ≤ n) = false := decide_eq_false (by omega)
  have x1 : (((s[n].toNat : Nat) : Int) == 34) = true := by rw [beq_iff_eq]; omega
  have x2 : (((s[n].toNat : Nat) : Int) != 34) = false := by rw [bne_eq_false_iff_eq]; omega
  have H34 := Lib.hid h34
  clear hX hP hx hl h34
  go_enter Tryd.func23, Tryd.ntmps23
  go_wp2_with fail
  go_region
  go_wp2_with fail
  go_loopw [10, 11] (fun lv kv wr => ∃ (acc : List Nat) (k f : Nat), kv = .int .i64 (k : Int) ∧ n + 1 ≤ k ∧ k ≤ s.size ∧ s.size < k + f ∧ Ints wr w.heap.size lv acc ∧ Below w.heap.size w wr ∧ acc ++ chs (txtL f (rest s k)).ps = X ∧ k + (txtL f (rest s k)).pos = n + 1 + P ∧ (txtL f (rest s k)).err = x) (fun _ kv _ => s.size - (intOf kv).toNat)
  case atStart => exact ⟨[], n + 1, F, rfl, Nat.le_refl _, by omega, hF, World.ownsRow_nil _ _ _ _, below_drewN (Below.refl _ _) 1, HX.out, by rw [HP.out], HE.out⟩
  case round =>
    obtain ⟨acc, k, f, rfl, hk1, hk0, hf, hown, hbw, ht, hp, he⟩ := hrel
    have OWN := Lib.hid hown
    have BW := Lib.hid hbw
    have c1 := fun W => one_any s k true hs hk0 W
    have hd0 : (0 : Int) ≤ (k : Int) := by omega
    cases f with
    | zero => omega
    | succ f =>
      unfold txtL at ht hp he
      by_cases q : hd (rest s k) = 34
      · rw [if_pos q] at ht hp he
        dsimp only at ht hp he
        have hk : k < s.size := by
          rcases Nat.lt_or_ge k s.size with h | h
          · exact h
          · rw [hd_rest_out s k h] at q
            exact absurd q (by decide)
        rw [hd_rest s k hk] at q
        have e1 : (((s[k].toNat : Nat) : Int) == ((s[n].toNat : Nat) : Int)) = true := by rw [beq_iff_eq, q, H34.out]
        have hXX : Hid (acc = X) := by unfold Hid; rw [← ht]; simp [chs]
        have HPP := Lib.hid hp
        have HEE : Hid (x = 0) := he.symm
        clear ht hp he q hown hbw c1
        go_wp2_with fail
        (try simp only [Exit.inBlock, Exit.then]); refine bodyPost_ret (Go.Proofs.YtdppfhgihoibnaaDoor.Qt.results_tmp4 rfl _ _ _) rfl ?_
        have hx0 := HEE.out
        refine ⟨u10, ?_, ?_, BW.out⟩
        · have hpp := HPP.out
          have hkk := HK.out
          rw [if_pos hx0] at hkk
          rw [hx0, ← hkk]
          have : ((n + 1 + P : Nat) : Int) = (k : Int) + 1 := by omega
          rw [this]
          rfl
        · have hY := HY.out
          rw [if_pos hx0, ← hXX.out] at hY
          rw [← hY]
          exact OWN.out
      · rw [if_neg q] at ht hp he
        have hlen := piece_len (rest s k)
        rw [rest_len] at hlen
        by_cases hk : k < s.size
        · rw [hd_rest s k hk] at q
          have e1 : (((s[k].toNat : Nat) : Int) == ((s[n].toNat : Nat) : Int)) = false := by rw [beq_eq_false_iff_ne, H34.out]; omega
          clear q
          unfold oneA at c1
          cases hpc : pieceL (rest s k) with
          | error y =>
            rw [hpc] at c1 ht hp he
            dsimp only at c1 ht hp he
            have C1 := Lib.hid c1
            have HPP := Lib.hid hp
            have HEE := Lib.hid he
            have y0 : (y != 0) = true := by rw [bne_iff_ne]; have := piece_err _ _ hpc; omega
            clear c1 ht hp he hown hbw hlen hpc
            go_wp2_with fail
            refine (C1.out _).mono ?_
            rintro e w1 ⟨rfl, hb1⟩
            have HB1 := Lib.hid (BW.out.trans (hb1.mono BW.out.size))
            clear hb1
            go_wp2_with fail
            (try simp only [Exit.inBlock, Exit.then]); refine bodyPost_ret (Go.Proofs.YtdppfhgihoibnaaDoor.Qt.results_tmp4 rfl _ _ _) rfl ?_
            have hx0 : ¬ x = 0 := by rw [← HEE.out]; exact bne_iff_ne.1 y0
            refine ⟨.slice none 0 0, ?_, ?_, HB1.out⟩
            · have hkk := HK.out
              rw [if_neg hx0] at hkk
              rw [← hkk, ← HEE.out, ← HPP.out, Nat.add_zero]
              rfl
            · have hY := HY.out
              rw [if_neg hx0] at hY
              rw [← hY]
              exact World.ownsRow_nil _ _ _ _
          | ok p =>
            rw [hpc] at c1 ht hp he
            dsimp only at c1 ht hp he
            obtain ⟨l1, l2, l3⟩ := hlen p hpc
            rw [rest_drop] at ht hp he
            rw [if_neg (by simp)] at c1
            by_cases h0 : p.form = 0
            · rw [if_pos h0] at c1
              rw [chs_cons, if_pos h0, ← List.append_assoc] at ht
              have hacc : acc.length + 1 ≤ 17592186044416 := by
                have h1 := congrArg List.length ht
                rw [List.length_append, List.length_append] at h1
                have h2 := HL.out
                simp at h1
                omega
              have y0 : decide ((0 : Int) ≤ ((p.num : Nat) : Int)) = true := decide_eq_true (by omega)
              have C1 := Lib.hid c1
              have HTT := Lib.hid ht
              have HPP := Lib.hid hp
              have HEE := Lib.hid he
              clear c1 ht hp he hown hbw hlen hpc l3
              go_wp2_with fail
              refine (C1.out _).mono ?_
              rintro e w1 ⟨rfl, hb1⟩
              have OW1 := Lib.hid (OWN.out.below hb1)
              have HB1 := Lib.hid (BW.out.trans (hb1.mono BW.out.size))
              have hz1 := HB1.out.size
              clear hb1
              go_wp2_with (first | (at_builtin; refine append_int _ rfl _ _ rfl w.heap.size u10 acc rfl (OW1.out.below ((Below.refl _ _).alloc (Nat.le_refl _) _)) ⟨w1.heap.size, 0, none⟩ p.num 1 rfl ?c1 hacc ?c2 ?_))
              case c1 => simp [go_sem]
              case c2 => simp; omega
              intro v' w3 hown' hgrow hblk
              have OWN' := Lib.hid hown'
              have GR := Lib.hid hgrow
              clear hown' hgrow hblk
              have HB3 : Hid (Below w.heap.size w w3) := (HB1.out.alloc HB1.out.size _).grown GR.out (by simp; omega) (fun j hj => (World.ownsRow.lt OW1.out j hj).1)
              go_wp2_with fail
              go_roundw
              case rel => exact ⟨acc ++ [p.num], k + p.bytes.length, f, rfl, by omega, by omega, by omega, OWN'.out, HB3.out, HTT.out, by rw [← HPP.out]; omega, HEE.out⟩
              case measure => simp [intOf]; omega
            · rw [if_neg h0] at c1
              rw [chs_cons, if_neg h0, List.nil_append] at ht
              have C1 := Lib.hid c1
              have HTT := Lib.hid ht
              have HPP := Lib.hid hp
              have HEE := Lib.hid he
              clear c1 ht hp he hown hbw hlen hpc l3 h0
              go_wp2_with fail
              refine (C1.out _).mono ?_
              rintro e w1 ⟨rfl, hb1⟩
              have OW1 := Lib.hid (OWN.out.below hb1)
              have HB1 := Lib.hid (BW.out.trans (hb1.mono BW.out.size))
              clear hb1
              go_wp2_with fail
              go_roundw
              case rel => exact ⟨acc, k + p.bytes.length, f, rfl, by omega, by omega, by omega, OW1.out, HB1.out, HTT.out, by rw [← HPP.out]; omega, HEE.out⟩
              case measure => simp [intOf]; omega
        · have hr : rest s k = [] := rest_nil s k (by omega)
          have ho : oneA k true (rest s k) = (0, (k : Int), 50) := by rw [hr]; rfl
          rw [ho] at c1
          rw [hr] at hp he
          have hpc : pieceL [] = .error 50 := rfl
          rw [hpc] at hp he
          dsimp only at c1 hp he
          have C1 := Lib.hid c1
          have HPP := Lib.hid hp
          have HEE := Lib.hid he
          clear c1 ht hp he hown hbw hlen hr ho q hpc
          go_wp2_with fail
          refine (C1.out _).mono ?_
          rintro e w1 ⟨rfl, hb1⟩
          have HB1 := Lib.hid (BW.out.trans (hb1.mono BW.out.size))
          clear hb1
          go_wp2_with fail
          (try simp only [Exit.inBlock, Exit.then]); refine bodyPost_ret (Go.Proofs.YtdppfhgihoibnaaDoor.Qt.results_tmp4 rfl _ _ _) rfl ?_
          have hx0 : ¬ x = 0 := by rw [← HEE.out]; decide
          refine ⟨.slice none 0 0, ?_, ?_, HB1.out⟩
          · have hkk := HK.out
            rw [if_neg hx0] at hkk
            rw [← hkk, ← HEE.out, ← HPP.out, Nat.add_zero]
            rfl
          · have hY := HY.out
            rw [if_neg hx0] at hY
            rw [← hY]
            exact World.ownsRow_nil _ _ _ _
end Go.Proofs.YtdppfhgihoibnaaDoor.Qt
