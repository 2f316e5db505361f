/-
  What is asked of a function that visits pieces; the contracts of package quote's charEnd and textEnd, whatever visits. Conditions: the string has at most 2^50 bytes; the program's list of names stands.
-/
import Derived.Test.YtdppfhgihoibnaaDoorQtPce
import Derived.Deep.RegionWith
namespace Go.Proofs.YtdppfhgihoibnaaDoor.Qt
open Go.RowKit Gly
open Wrd (rn wd)
set_option linter.unusedSimpArgs false
set_option linter.unusedVariables false

/-- Blocks that are not the visitor's stay as they were. -/
structure Kept (B : Nat) (O : World → Nat → Prop) (w w' : World) : Prop where
  below : Below B w w'
  same : ∀ j, j < w.heap.size → ¬ O w j → w'.heap[j]? = w.heap[j]? ∧ ¬ O w' j
theorem Kept.trans {B : Nat} {O : World → Nat → Prop} {a b c : World} (h : Kept B O a b) (k : Kept B O b c) : Kept B O a c :=
  ⟨h.below.trans k.below, fun j hj ho => by
    obtain ⟨h1, h2⟩ := h.same j hj ho
    obtain ⟨k1, k2⟩ := k.same j (Nat.lt_of_lt_of_le hj h.below.size) h2
    exact ⟨k1.trans h1, k2⟩⟩
/-- What visits the pieces of a literal whose text begins at byte at0: tot are its pieces, V says what has been visited, O which blocks are its own. -/
structure Vis (s : ByteArray) (at0 : Nat) (tot : List Pc) (K : FuncId) (cap : Array Value) (B : Nat) (V : List Pc → World → Prop) (O : World → Nat → Prop) : Prop where
  enter : ∀ args w, (callFunc K args).run Tryd.prog w = .ok (.enter K args) w
  nam : ∀ acc w, V acc w → Nam w
  size : ∀ acc w, V acc w → B ≤ w.heap.size
  keep : ∀ acc w w', V acc w → Below w.heap.size w w' → V acc w' ∧ ∀ j, j < w.heap.size → ¬ O w j → ¬ O w' j
  fresh : ∀ acc w c t fz, V acc w → t ≠ 5 → ¬ O (w.alloc (.cells c t fz)) w.heap.size
  set : ∀ acc w j i v, V acc w → B ≤ j → j < w.heap.size → ¬ O w j → V acc (w.setCell ⟨j, i, none⟩ v) ∧ ∀ k, ¬ O w k → ¬ O (w.setCell ⟨j, i, none⟩ v) k
  step : ∀ acc p w, V acc w → (∃ t, tot = acc ++ p :: t) → pieceL (rest s (at0 + (flat acc).length)) = .ok p →
    Calls Tryd.prog K (#[pcV (at0 + (flat acc).length) p] ++ cap) w fun e w' => e = .returned (.tuple #[]) ∧ V (acc ++ [p]) w' ∧ Kept B O w w'
section
variable {s : ByteArray} {at0 : Nat} {tot : List Pc} {K : FuncId} {cap : Array Value} {B : Nat} {V : List Pc → World → Prop} {O : World → Nat → Prop}
theorem Vis.kept (vis : Vis s at0 tot K cap B V O) {acc : List Pc} {w w' : World} (h : V acc w) (hb : Below w.heap.size w w') : V acc w' ∧ Kept B O w w' :=
  ⟨(vis.keep acc w w' h hb).1, ⟨hb.mono (vis.size acc w h), fun j hj ho => ⟨hb.block j hj, (vis.keep acc w w' h hb).2 j hj ho⟩⟩⟩
/-- Where a literal ends: a result, or a fault. -/
def Ends (at0 : Nat) (r : Rd) (e : Ending) : Prop := if r.err = 0 then e = .returned (.int .i64 ((at0 + r.pos : Nat) : Int)) else e = flt (at0 + r.pos) r.err
/-- The frame in which p is: laid when the visitor had visited acc. -/
theorem Vis.put (vis : Vis s at0 tot K cap B V O) {acc : List Pc} {w : World} (h : V acc w) (a b c d : Int) :
    V acc (w.alloc (.cells #[.int .i64 a, .int .i64 b, .int .i64 c, .int .i64 d] 38)) ∧ Kept B O w (w.alloc (.cells #[.int .i64 a, .int .i64 b, .int .i64 c, .int .i64 d] 38)) ∧
    ¬ O (w.alloc (.cells #[.int .i64 a, .int .i64 b, .int .i64 c, .int .i64 d] 38)) w.heap.size := by
  obtain ⟨h1, h2⟩ := vis.kept h ((Below.refl _ w).alloc (Nat.le_refl _) (.cells #[.int .i64 a, .int .i64 b, .int .i64 c, .int .i64 d] 38))
  exact ⟨h1, h2, vis.fresh acc w _ _ _ h (by decide)⟩

set_option maxHeartbeats 1000000 in
theorem textEnd_any (vis : Vis s at0 tot K cap B V O) (hs : s.size ≤ 1125899906842624) (ha : at0 ≤ s.size) (F : Nat) (hF : s.size < at0 + F) (ht : tot = (txtL F (rest s at0)).ps) (w : World) (hV : V [] w) :
    Calls Tryd.prog 39 #[.string s, .int .i64 (at0 : Int), .func (.func K) #[] cap] w fun e w' => Ends at0 (txtL F (rest s at0)) e ∧ Kept B O w w' ∧ ((txtL F (rest s at0)).err = 0 → V tot w') := by
  obtain ⟨R, hR⟩ : ∃ R, txtL F (rest s at0) = R := ⟨_, rfl⟩
  rw [hR] at ht ⊢
  have HR := Lib.hid hR
  have HT := Lib.hid ht
  have HV := Lib.hid hV
  have hent := vis.enter
  have VS := Lib.hid vis
  clear hR ht hV vis
  go_enter Tryd.func39, Tryd.ntmps39
  go_wp2_with fail
  go_loopw [1] (fun a wr => ∃ (acc : List Pc) (n f : Nat), a = .int .i64 (n : Int) ∧ n = at0 + (flat acc).length ∧ n ≤ s.size ∧ s.size < n + f ∧ V acc wr ∧ Kept B O w wr ∧ tot = acc ++ (txtL f (rest s n)).ps ∧ n + (txtL f (rest s n)).pos = at0 + R.pos ∧ (txtL f (rest s n)).err = R.err) (fun a _ => s.size - (intOf a).toNat)
  case atStart =>
    refine ⟨[], at0, F, rfl, rfl, ha, hF, HV.out, ⟨Below.refl _ _, fun j _ ho => ⟨rfl, ho⟩⟩, ?_, ?_, ?_⟩
    · rw [HR.out, HT.out]
      rfl
    · rw [HR.out]
    · rw [HR.out]
  case round =>
    obtain ⟨acc, n, f, rfl, hn, hn0, hf, hv, hk, ht, hp, he⟩ := hrel
    have VA := Lib.hid hv
    have KW := Lib.hid hk
    have HN := Lib.hid hn
    cases f with
    | zero => omega
    | succ f =>
      unfold txtL at ht hp he
      have c0 := fun W => stands_at s n 34 (by omega) hs W
      by_cases q : hd (rest s n) = 34
      · rw [if_pos q] at ht hp he
        dsimp only at ht hp he
        rw [List.append_nil] at ht
        rw [show (hd (rest s n) == 34) = true from beq_iff_eq.2 q] at c0
        have C0 := Lib.hid c0
        have HTT := Lib.hid ht
        have HP := Lib.hid hp
        have HE := Lib.hid he
        clear c0 ht hp he hv hk hn q
        go_wp2_with fail
        refine (C0.out _).mono ?_
        rintro e w1 ⟨rfl, rfl⟩
        go_wp2_with fail
        go_ret
        refine ⟨?_, KW.out, fun _ => by rw [HTT.out]; exact VA.out⟩
        unfold Ends
        rw [if_pos HE.out.symm]
        have hp := HP.out
        have : ((at0 + R.pos : Nat) : Int) = (n : Int) + 1 := by omega
        rw [this]
        rfl
      · rw [if_neg q] at ht hp he
        rw [show (hd (rest s n) == 34) = false from beq_eq_false_iff_ne.2 q] at c0
        have c1 : Calls Tryd.prog 49 #[.string s, .int .i64 (n : Int)] wr _ := pieceAt_any s n hs hn0 wr (VS.out.nam _ _ hv)
        have C0 := Lib.hid c0
        have hlen := piece_len (rest s n)
        cases hpc : pieceL (rest s n) with
        | error x =>
          rw [hpc] at ht hp he c1
          dsimp only [Got] at ht hp he c1
          have C1 := Lib.hid c1
          have HTT := Lib.hid ht
          have HP := Lib.hid hp
          have HE := Lib.hid he
          clear c0 c1 hlen ht hp he hv hk hn q
          go_wp2_with fail
          refine (C0.out _).mono ?_
          rintro e w1 ⟨rfl, rfl⟩
          go_wp2_with fail
          refine C1.out.mono ?_
          rintro e w1 ⟨rfl, hb1⟩
          dsimp only [flt]
          try go_wp2_with fail
          have hx := piece_err _ x hpc
          have he := HE.out
          refine ⟨rfl, ?_, KW.out.trans (VS.out.kept VA.out hb1).2, fun h0 => by omega⟩
          unfold Ends
          rw [if_neg (by omega)]
          show Ending.panicked _ = flt (at0 + R.pos) R.err
          rw [← HP.out, ← HE.out]
          rfl
        | ok p =>
          rw [hpc] at ht hp he c1
          dsimp only [Got, pcV, pcC] at ht hp he c1
          have C1 := Lib.hid c1
          obtain ⟨l1, l2, l3⟩ := hlen p hpc
          rw [rest_len] at l2
          have L3 := Lib.hid l3
          have HPC := Lib.hid hpc
          have HTT := Lib.hid ht
          have HP := Lib.hid hp
          have HE := Lib.hid he
          clear c0 c1 hlen ht hp he hv hk hn q l3 hpc
          go_wp2_with fail
          refine (C0.out _).mono ?_
          rintro e w1 ⟨rfl, rfl⟩
          go_wp2_with fail
          refine C1.out.mono ?_
          rintro e w1 ⟨rfl, hb1⟩
          have hn := HN.out
          obtain ⟨v1, k1⟩ := VS.out.kept VA.out hb1
          obtain ⟨v2, k2, o2⟩ := VS.out.put v1 (p.form : Int) (p.num : Int) (n : Int) ((n : Int) + (p.bytes.length : Int))
          have st := VS.out.step acc p _ v2 ⟨_, HTT.out⟩ (by rw [← hn]; exact HPC.out)
          rw [← hn] at st
          simp only [pcV, pcC, Int.natCast_add] at st
          have ST := Lib.hid st
          have K2 := Lib.hid ((KW.out.trans k1).trans k2)
          have O2 := Lib.hid o2
          clear hn v1 k1 v2 k2 o2 st hb1
          go_wp2_with fail
          refine ST.out.mono ?_
          rintro e w2 ⟨rfl, v3, k3⟩
          have V3 := Lib.hid v3
          have FR : Hid (Four w2 w1.heap.size (p.form : Int) (p.num : Int) (n : Int) ((n : Int) + (p.bytes.length : Int))) :=
            ((k3.same w1.heap.size (by rw [World.size_alloc]; omega) O2.out).1).trans (heap_alloc_new w1 _)
          have K3 := Lib.hid (K2.out.trans k3)
          have q3 := FR.out.c3
          clear v3 k3
          go_wp2_with fail
          go_roundw
          case rel =>
            have hn := HN.out
            have ht := HTT.out
            have hp := HP.out
            have he := HE.out
            rw [rest_drop] at ht hp he
            refine ⟨acc ++ [p], n + p.bytes.length, f, rfl, ?_, by omega, by omega, V3.out, K3.out, ?_, by rw [← hp]; omega, he⟩
            · rw [flat_app, List.length_append, hn]
              unfold flat
              simp
              omega
            · rw [ht, List.append_assoc]
              rfl
          case measure => simp [intOf]; omega

set_option maxHeartbeats 1000000 in
theorem charEnd_any (vis : Vis s at0 tot K cap B V O) (hs : s.size ≤ 1125899906842624) (ha : at0 ≤ s.size) (ht : tot = (chrL (rest s at0)).ps) (w : World) (hV : V [] w) :
    Calls Tryd.prog 38 #[.string s, .int .i64 (at0 : Int), .func (.func K) #[] cap] w fun e w' => Ends at0 (chrL (rest s at0)) e ∧ Kept B O w w' ∧ ((chrL (rest s at0)).err = 0 → V tot w') := by
  obtain ⟨n, hn⟩ : ∃ n, at0 = n := ⟨_, rfl⟩
  have c0 := fun W => stands_at s n 39 (by omega) hs W
  have c1 : Calls Tryd.prog 49 #[.string s, .int .i64 (n : Int)] w _ := pieceAt_any s n hs (by omega) w (vis.nam _ _ hV)
  have hlen := piece_len (rest s n)
  have hent := vis.enter
  have VS := Lib.hid vis
  have VV := Lib.hid hV
  have hR : chrL (rest s n) = if hd (rest s n) = 39 then ⟨[], 0, 50⟩ else match pieceL (rest s n) with
    | .error e => ⟨[], 0, e⟩
    | .ok p => if p.form ≠ 0 then ⟨[], 0, 51⟩ else if hd ((rest s n).drop p.bytes.length) = 39 then ⟨[p], p.bytes.length + 1, 0⟩ else ⟨[], p.bytes.length, 50⟩ := rfl
  have hn1 : at0 ≤ s.size := ha
  rw [hn] at ht hn1 ⊢
  generalize chrL (rest s n) = R at *
  have bad : ∀ (k : Nat) (x : Int) (w' : World), R = ⟨[], k, x⟩ → x ≠ 0 → Kept B O w w' → Ends n R (.panicked [{ v := .iface 60 (.agg #[.int .i64 ((n + k : Nat) : Int), .int .i64 x]), recovered := false }]) ∧ Kept B O w w' ∧ (R.err = 0 → V tot w') := by
    intro k x w' e hx hk
    refine ⟨?_, hk, fun h0 => by rw [e] at h0; exact absurd h0 hx⟩
    unfold Ends
    rw [e, if_neg hx]
    rfl
  by_cases q : hd (rest s n) = 39
  · rw [if_pos q] at hR
    rw [show (hd (rest s n) == 39) = true from beq_iff_eq.2 q] at c0
    have C0 := Lib.hid c0
    have BAD := Lib.hid (bad 0 50 w hR (by decide) ⟨Below.refl _ _, fun j _ ho => ⟨rfl, ho⟩⟩)
    clear c0 c1 hlen hn hR bad hV ht q vis hent ha
    go_enter Tryd.func38, Tryd.ntmps38
    go_wp2_with fail
    refine (C0.out _).mono ?_
    rintro e w1 ⟨rfl, rfl⟩
    go_wp2_with fail
    exact ⟨rfl, BAD.out⟩
  rw [if_neg q] at hR
  rw [show (hd (rest s n) == 39) = false from beq_eq_false_iff_ne.2 q] at c0
  have C0 := Lib.hid c0
  cases hpc : pieceL (rest s n) with
  | error x =>
    rw [hpc] at hR c1
    dsimp only [Got, flt] at hR c1
    have hx := piece_err _ x hpc
    have C1 := Lib.hid c1
    have BAD : Hid (∀ w', Kept B O w w' → _) := fun w' hk => bad 0 x w' hR (by omega) hk
    clear c0 c1 hlen hn hR bad hV ht q vis hent ha hpc hx
    go_enter Tryd.func38, Tryd.ntmps38
    go_wp2_with fail
    refine (C0.out _).mono ?_
    rintro e w1 ⟨rfl, rfl⟩
    go_wp2_with fail
    refine C1.out.mono ?_
    rintro e w1 ⟨rfl, hb1⟩
    have HK := Lib.hid (VS.out.kept VV.out hb1).2
    clear hb1
    try go_wp2_with fail
    exact ⟨rfl, BAD.out _ HK.out⟩
  | ok p =>
    rw [hpc] at hR c1
    dsimp only [Got, pcV, pcC] at hR c1
    obtain ⟨l1, l2, l3⟩ := hlen p hpc
    rw [rest_len] at l2
    have C1 := Lib.hid c1
    rw [rest_drop] at hR
    by_cases q2 : p.form ≠ 0
    · rw [if_pos q2] at hR
      have BAD : Hid (∀ w', Kept B O w w' → _) := fun w' hk => bad 0 51 w' hR (by decide) hk
      have x0 : ((p.form : Int) != 0) = true := by rw [bne_iff_ne]; omega
      clear c0 c1 hlen hn hR bad hV ht q vis hent ha hpc q2 l3
      go_enter Tryd.func38, Tryd.ntmps38
      go_wp2_with fail
      refine (C0.out _).mono ?_
      rintro e w1 ⟨rfl, rfl⟩
      go_wp2_with fail
      refine C1.out.mono ?_
      rintro e w1 ⟨rfl, hb1⟩
      obtain ⟨v1, k1⟩ := VS.out.kept VV.out hb1
      obtain ⟨v2, k2, o2⟩ := VS.out.put v1 (p.form : Int) (p.num : Int) (n : Int) ((n : Int) + (p.bytes.length : Int))
      have K2 := Lib.hid (k1.trans k2)
      have V2 := Lib.hid v2
      have O2 := Lib.hid o2
      clear v1 k1 v2 k2 o2 hb1
      go_wp2_with fail
      exact ⟨rfl, BAD.out _ K2.out⟩
    · rw [if_neg q2] at hR
      have q3 : p.form = 0 := by omega
      have x0 : ((p.form : Int) != 0) = false := by rw [bne_eq_false_iff_eq]; omega
      have c2 : ∀ W, Calls Tryd.prog 36 #[.string s, .int .i64 ((n : Int) + (p.bytes.length : Int)), .int .u8 39] W fun e w' => e = .returned (.bool (hd (rest s (n + p.bytes.length)) == 39)) ∧ W = w' := fun W => stands_at s (n + p.bytes.length) 39 (by omega) hs W
      by_cases q4 : hd (rest s (n + p.bytes.length)) = 39
      · rw [if_pos q4] at hR
        rw [show (hd (rest s (n + p.bytes.length)) == 39) = true from beq_iff_eq.2 q4] at c2
        have C2 := Lib.hid c2
        have HR := Lib.hid hR
        have HT := Lib.hid ht
        have HPC : Hid (pieceL (rest s (at0 + (flat []).length)) = .ok p) := by
          show pieceL (rest s (at0 + 0)) = .ok p
          rw [Nat.add_zero, hn]
          exact hpc
        have HNN := Lib.hid hn
        clear c0 c1 c2 hlen hn hR bad hV ht q vis ha hpc q2 q3 q4 l3
        go_enter Tryd.func38, Tryd.ntmps38
        go_wp2_with fail
        refine (C0.out _).mono ?_
        rintro e w1 ⟨rfl, rfl⟩
        go_wp2_with fail
        refine C1.out.mono ?_
        rintro e w1 ⟨rfl, hb1⟩
        obtain ⟨v1, k1⟩ := VS.out.kept VV.out hb1
        obtain ⟨v2, k2, o2⟩ := VS.out.put v1 (p.form : Int) (p.num : Int) (n : Int) ((n : Int) + (p.bytes.length : Int))
        have K2 := Lib.hid (k1.trans k2)
        have V2 := Lib.hid v2
        have O2 := Lib.hid o2
        clear v1 k1 v2 k2 o2 hb1
        have st := VS.out.step [] p _ V2.out ⟨[], by rw [HT.out, HR.out]; rfl⟩ HPC.out
        have e0 : at0 + (flat []).length = n := by rw [HNN.out]; rfl
        rw [e0] at st
        simp only [pcV, pcC, Int.natCast_add] at st
        have ST := Lib.hid st
        clear st e0
        go_wp2_with fail
        refine (C2.out _).mono ?_
        rintro e w1 ⟨rfl, rfl⟩
        go_wp2_with fail
        refine ST.out.mono ?_
        rintro e w2 ⟨rfl, v3, k3⟩
        have V3 := Lib.hid v3
        have K3 := Lib.hid (K2.out.trans k3)
        have FR := Lib.hid (((k3.same _ (by rw [World.size_alloc]; omega) O2.out).1).trans (heap_alloc_new _ _))
        have q3 : w2.cell? ⟨_, 3, none⟩ = some (.int .i64 ((n : Int) + (p.bytes.length : Int))) := Four.c3 FR.out
        clear v3 k3
        go_wp2_with fail
        go_ret
        refine ⟨?_, K3.out, fun _ => by rw [HT.out, HR.out]; exact V3.out⟩
        unfold Ends
        rw [HR.out, if_pos rfl]
        have : ((n + (p.bytes.length + 1) : Nat) : Int) = (n : Int) + (p.bytes.length : Int) + 1 := by omega
        dsimp only
        rw [this]
        rfl
      · rw [if_neg q4] at hR
        rw [show (hd (rest s (n + p.bytes.length)) == 39) = false from beq_eq_false_iff_ne.2 q4] at c2
        have C2 := Lib.hid c2
        have BAD : Hid (∀ w', Kept B O w w' → _) := fun w' hk => bad p.bytes.length 50 w' hR (by decide) hk
        clear c0 c1 c2 hlen hn hR bad hV ht q vis hent ha hpc q2 q3 q4 l3
        go_enter Tryd.func38, Tryd.ntmps38
        go_wp2_with fail
        refine (C0.out _).mono ?_
        rintro e w1 ⟨rfl, rfl⟩
        go_wp2_with fail
        refine C1.out.mono ?_
        rintro e w1 ⟨rfl, hb1⟩
        obtain ⟨v1, k1⟩ := VS.out.kept VV.out hb1
        obtain ⟨v2, k2, o2⟩ := VS.out.put v1 (p.form : Int) (p.num : Int) (n : Int) ((n : Int) + (p.bytes.length : Int))
        have K2 := Lib.hid (k1.trans k2)
        have V2 := Lib.hid v2
        have O2 := Lib.hid o2
        clear v1 k1 v2 k2 o2 hb1
        go_wp2_with fail
        refine (C2.out _).mono ?_
        rintro e w1 ⟨rfl, rfl⟩
        go_wp2_with fail
        have := BAD.out _ K2.out
        rw [Int.natCast_add] at this
        exact ⟨rfl, this⟩
end
end Go.Proofs.YtdppfhgihoibnaaDoor.Qt
