/-
  The contract of package quote's Runes: the numbers of the characters, in memory of the call's own. Conditions: the string has at most 2^50 bytes; the numbers take at most 2^47 bytes; the program's list of names stands.
-/
import Derived.Test.YtdppfhgihoibnaaDoorQtScn
import Derived.ArgAppend
namespace Go.Proofs.YtdppfhgihoibnaaDoor.Qt
open Go.RowKit Gly
open Wrd (rn wd)
set_option linter.unusedSimpArgs false
set_option linter.unusedVariables false

theorem infoInt : (Tryd.prog.info? 3).map (fun i => (i.zero, i.size, i.bytes)) = some (some (.int .i64 0), 1, 8) := by kernel_rfl
def intC (xs : List Nat) : List Value := xs.map fun (x : Nat) => Value.int .i64 (x : Int)
/-- A row of numbers in memory of the call's own. -/
def Ints (w : World) (B : Nat) (v : Value) (xs : List Nat) : Prop := w.ownsRow B 3 1 v xs.length (intC xs)
theorem Ints.push {w : World} {B : Nat} {v : Value} {xs : List Nat} {x : Nat} (h : w.ownsRow B 3 1 v (xs.length + 1) (intC xs ++ [.int .i64 (x : Int)])) : Ints w B v (xs ++ [x]) := by
  unfold Ints
  rw [List.length_append]
  have : intC (xs ++ [x]) = intC xs ++ [.int .i64 (x : Int)] := by simp [intC]
  rw [this]
  exact h
theorem Ints.kept {w w' : World} {B : Nat} {v : Value} {xs : List Nat} {row : Option Nat} (h : Ints w B v xs) (hg : w.grownBy w' row) (hne : v.ownBlock = none ∨ v.ownBlock ≠ row) : Ints w' B v xs := World.ownsRow.kept h hg hne
theorem Ints.shape {w : World} {B : Nat} {v : Value} {xs : List Nat} (h : Ints w B v xs) : (v = .slice none 0 0 ∧ xs = []) ∨ ∃ g cap, v = .slice (some ⟨g, 0, none⟩) xs.length cap ∧ B ≤ g ∧ g < w.heap.size := by
  rcases h.2 with ⟨rfl, h0⟩ | ⟨g, cap, cur, rfl, hb, hg, _⟩
  · exact .inl ⟨rfl, List.eq_nil_of_length_eq_zero h0⟩
  · exact .inr ⟨g, cap, rfl, hb, lt_of_block hg⟩
theorem Ints.at' {w : World} {B g n cap : Nat} {xs : List Nat} (h : w.ownsRow B 3 1 (.slice (some ⟨g, 0, none⟩) n cap) n (intC xs)) (k : Nat) (hk : k < n) (hx : k < xs.length) : w.cell? ⟨g, k, none⟩ = some (.int .i64 ((xs[k] : Nat) : Int)) := by
  rw [h.cellAt k (by omega)]
  simp [intC, hx]
theorem grown_trans {a w w' : World} {row row' : Option Nat} (h : a.grownBy w row) (k : w.grownBy w' row') (hr : ∀ j, j < a.heap.size → some j ≠ row → some j ≠ row') : a.grownBy w' row :=
  ⟨k.os.trans h.os, k.tape.trans h.tape, k.output.trans h.output, Nat.le_trans h.size k.size, fun j hj hne => (k.block j (Nat.lt_of_lt_of_le hj h.size) (hr j hj hne)).trans (h.block j hj hne)⟩
theorem Ints.below {w w' : World} {B : Nat} {v : Value} {xs : List Nat} (h : Ints w B v xs) (hb : Below w.heap.size w w') : Ints w' B v xs := by
  rcases h.shape with ⟨rfl, -⟩ | ⟨g, cap, rfl, -, -⟩
  · exact h.kept (grown_of_below hb) (.inl rfl)
  · exact h.kept (grown_of_below hb) (.inr (by simp [Value.ownBlock]))

/-- append of one number to a row of the call's own: the same row, or a new one. -/
theorem append_int (w : World) {ops : Array Oper} {rest : List Oper} {o : Oper} {a : Act} {Q : Exit → Act → World → Prop} (hg : o.guard = none) (sl x : Operand) (hop : o.op = Op.call { callee := Callee.builtin Builtin.append, args := #[sl, x], argTypes := #[27, 27] })
    (base : Nat) (v : Value) (xs : List Nat) (hs : a.eval sl = v) (hown : Ints w base v xs) (ad : Addr) (y c : Nat) (hx : a.eval x = .slice (some ad) 1 c) (hc : w.cell? ad = some (.int .i64 (y : Int))) (b1 : xs.length + 1 ≤ 17592186044416) (hB : base ≤ w.heap.size)
    (hK : ∀ v' w', Ints w' base v' (xs ++ [y]) → w.grownBy w' v.ownBlock → (v'.ownBlock = v.ownBlock ∨ ∃ g, v'.ownBlock = some g ∧ w.heap.size ≤ g) → wpList Tryd.prog ops Q rest (a.put o.dst v') w') :
    wpList Tryd.prog ops Q (o :: rest) a w := by
  obtain ⟨i0, hi, hz0, hz1, hz2⟩ := info_parts infoInt
  have c1 : ∀ j u, [Value.int .i64 (y : Int)][j]? = some u → w.cell? (ad.add j) = some u := by
    intro j u hj
    match j, hj with
    | 0, hj =>
      simp at hj
      subst hj
      have : ad.add 0 = ad := by unfold Addr.add; split <;> simp_all
      rw [this]
      exact hc
  have c2 : ∀ u ∈ [Value.int .i64 (y : Int)], u.oneCell' = true := by intro u hu; simp at hu; subst hu; rfl
  have weak : ∀ (v' : Value) (w' : World), w'.ownsRow w.heap.size 3 1 v' (xs.length + 1) (intC xs ++ [.int .i64 (y : Int)]) → Ints w' base v' (xs ++ [y]) ∧ ∃ g, v'.ownBlock = some g ∧ w.heap.size ≤ g := by
    rintro v' w' ⟨h1, h2⟩
    rcases h2 with ⟨rfl, h0⟩ | ⟨g, cap, cur, rfl, hb, rest⟩
    · omega
    · exact ⟨Ints.push ⟨h1, .inr ⟨g, cap, cur, rfl, Nat.le_trans hB hb, rest⟩⟩, g, rfl, hb⟩
  have h2 := hown.2
  have hl : (intC xs).length = xs.length := by simp [intC]
  rcases h2 with ⟨rfl, h0⟩ | ⟨g, cap, cur, rfl, hb, hgg, hn, hcap, hcur, htk⟩
  · refine wpList_append_own w hg sl x 27 hop w.heap.size 3 i0 (.int .i64 0) 1 8 Tryd.underlying27 hi hz0 hz1 hz2 rfl (by decide) (.slice none 0 0) xs.length (intC xs) hs ?_ ad 1 c [.int .i64 (y : Int)] hx rfl c1 c2 (by unfold maxLen; omega) (by omega) (Nat.le_refl _) ?_
    · exact ⟨by rw [hl, Nat.mul_one], .inl ⟨rfl, h0⟩⟩
    · intro v' w' h1 h2 _
      obtain ⟨k1, k2⟩ := weak v' w' h1
      exact hK v' w' k1 h2 (.inr k2)
  · by_cases hfit : xs.length + 1 ≤ cap
    · refine wpList_append_fits w hg sl x 27 hop base 3 i0 1 Tryd.underlying27 hi hz1 g xs.length cap (intC xs) hs hown ad 1 c [.int .i64 (y : Int)] hx rfl c1 c2 hfit ?_
      intro w' h1 h2
      exact hK _ w' (Ints.push h1) h2 (.inl rfl)
    · refine wpList_append_grows w hg sl x 27 hop 3 i0 (.int .i64 0) 1 8 Tryd.underlying27 hi hz0 hz1 hz2 rfl (by decide) (some ⟨g, 0, none⟩) xs.length cap (intC xs) hs (fun e => by cases e) (by rw [hl, Nat.mul_one]) ?_ ad 1 c [.int .i64 (y : Int)] hx rfl c1 c2 (by omega) (by unfold maxLen; omega) (by omega) ?_
      · intro b hb j u hj
        obtain rfl := Option.some.inj hb
        have hj1 : j < xs.length := by
          rw [← hl]
          exact (List.getElem?_eq_some_iff.1 hj).1
        have := Ints.at' hown j hj1 hj1
        have e : (⟨g, 0, none⟩ : Addr).add j = ⟨g, j, none⟩ := by unfold Addr.add; split <;> simp_all
        rw [e, this, ← hj]
        simp [intC, hj1]
      · intro v' w' h1 h2
        obtain ⟨k1, k2⟩ := weak v' w' h1
        exact hK v' w' k1 ⟨h2.os, h2.tape, h2.output, h2.size, fun k hk _ => h2.block k hk (by simp)⟩ (.inr k2)

/-- What Runes' visitor has laid: the variable's block, the row in it. -/
def RunV (w0 : World) (acc : List Pc) (w : World) : Prop := Below w0.heap.size w0 w ∧ ∃ v, One w w0.heap.size v 27 ∧ Ints w (w0.heap.size + 1) v (chs acc)
def RunO (w0 : World) (w : World) (j : Nat) : Prop := j = w0.heap.size ∨ ∃ v, One w w0.heap.size v 27 ∧ v.ownBlock = some j
theorem One.uniq {w : World} {g : Nat} {v v' : Value} {t t' : TypeId} (h : One w g v t) (h' : One w g v' t') : v = v' := by
  unfold One at h h'
  rw [h] at h'
  simp at h'
  exact h'.1
theorem RunV.new (w0 : World) : RunV w0 [] (w0.alloc (.cells #[.slice none 0 0] 27)) :=
  ⟨(Below.refl _ _).alloc (Nat.le_refl _) _, _, One.new w0 _ _, World.ownsRow_nil _ _ _ _⟩
set_option maxHeartbeats 1000000 in
theorem vis_runes (s : ByteArray) (at0 : Nat) (tot : List Pc) (hlen : (chs tot).length ≤ 17592186044416) (w0 : World) (hN : Nam w0) : Vis s at0 tot 25 #[.pointer (some ⟨w0.heap.size, 0, none⟩)] w0.heap.size (RunV w0) (RunO w0) where
  enter := enters_of Tryd.func25 (by kernel_rfl) rfl
  nam := fun _ w h => hN.below h.1 (Nat.le_refl _)
  size := fun _ w h => h.1.size
  keep := fun acc w w' h hb => by
    obtain ⟨h1, v, h2, h3⟩ := h
    refine ⟨⟨h1.trans (hb.mono h1.size), v, h2.below hb h2.lt, h3.below hb⟩, ?_⟩
    rintro j hj hn (h | ⟨v', h4, h5⟩)
    · exact hn (.inl h)
    · have : One w w0.heap.size v' 27 := (hb.block _ h2.lt).symm.trans h4
      exact hn (.inr ⟨v', this, h5⟩)
  fresh := fun acc w c t fz h ht => by
    obtain ⟨h1, v, h2, h3⟩ := h
    rintro (h | ⟨v', h4, h5⟩)
    · have := h2.lt
      omega
    · have hb : Below w.heap.size w (w.alloc (.cells c t fz)) := (Below.refl _ _).alloc (Nat.le_refl _) _
      have e : One w w0.heap.size v' 27 := (hb.block _ h2.lt).symm.trans h4
      obtain rfl := e.uniq h2
      have := (World.ownsRow.lt h3 _ h5).2
      omega
  set := fun acc w j i x h hB hj hn => by
    obtain ⟨h1, v, h2, h3⟩ := h
    have n1 : w0.heap.size ≠ j := fun e => hn (.inl e.symm)
    have n2 : v.ownBlock ≠ some j := fun e => hn (.inr ⟨v, h2, e⟩)
    have hk : (w.setCell ⟨j, i, none⟩ x).heap[w0.heap.size]? = w.heap[w0.heap.size]? := heap_setCell_other w ⟨j, i, none⟩ _ x n1
    refine ⟨⟨h1.setCell (p := ⟨j, i, none⟩) hB x, v, hk.trans h2, h3.kept (grown_set w j i x) (.inr n2)⟩, ?_⟩
    rintro k hk2 (h | ⟨v', h4, h5⟩)
    · exact hk2 (.inl h)
    · exact hk2 (.inr ⟨v', hk.symm.trans h4, h5⟩)
  step := fun acc p w h ht _ => by
    obtain ⟨h1, v, h2, h3⟩ := h
    generalize at0 + (flat acc).length = n
    have hB : w0.heap.size < w.heap.size := h2.lt
    have hb : Below w.heap.size w (w.alloc (.cells #[.int .i64 (p.form : Int), .int .i64 (p.num : Int), .int .i64 (n : Int), .int .i64 ((n + p.bytes.length : Nat) : Int)] 38)) := (Below.refl _ _).alloc (Nat.le_refl _) _
    have e0 : chs (acc ++ [p]) = chs acc ++ (if p.form = 0 then [p.num] else []) := by rw [chs_app, chs_cons]; simp [chs]
    have H1 := Lib.hid h1
    have H2 := Lib.hid h2
    have H3 := Lib.hid h3
    have HB := Lib.hid hb
    unfold pcV pcC
    simp only [List.push_toArray, List.append_toArray, List.cons_append, List.nil_append]
    by_cases q : p.form = 0
    · rw [if_pos q] at e0
      have hl : (chs acc).length + 1 ≤ 17592186044416 := by
        obtain ⟨t, ht⟩ := ht
        have := congrArg List.length (congrArg chs ht)
        rw [chs_app, chs_cons, if_pos q, List.length_append, List.length_append] at this
        simp at this
        omega
      obtain ⟨i0, hi, hz0, hz1, hz2⟩ := info_parts infoInt
      have x0 : ((p.form : Int) == 0) = true := by rw [beq_iff_eq]; omega
      have o1 := h2.below hb h2.lt
      have y0 := h2.c0
      have E0 := Lib.hid e0
      have OW : Hid (Ints (w.alloc (.cells #[.int .i64 (p.form : Int), .int .i64 (p.num : Int), .int .i64 (n : Int), .int .i64 ((n + p.bytes.length : Nat) : Int)] 38)) (w0.heap.size + 1) v (chs acc)) := h3.below hb
      have ON := Lib.hid o1
      have Z1 : Hid ((w.alloc (.cells #[.int .i64 (p.form : Int), .int .i64 (p.num : Int), .int .i64 (n : Int), .int .i64 ((n + p.bytes.length : Nat) : Int)] 38)).heap.size = w.heap.size + 1) := World.size_alloc _ _
      clear h1 h2 h3 hb e0 ht q o1 hlen hN
      go_enter Tryd.func25, Tryd.ntmps25
      go_wp2_with (first | (at_builtin; refine append_int _ rfl _ _ rfl (w0.heap.size + 1) v (chs acc) rfl (OW.out.below ((Below.refl _ _).alloc (Nat.le_refl _) _)) ⟨w.heap.size + 1, 0, none⟩ p.num 1 rfl ?c1 hl ?c2 ?_))
      case c1 => simp [go_sem]
      case c2 => simp; omega
      intro v' w3 hown' hgrow hblk
      obtain ⟨gg, cp, hv'⟩ : ∃ gg cp, v' = .slice (some ⟨gg, 0, none⟩) ((chs acc).length + 1) cp := by
        rcases hown'.shape with ⟨-, h0⟩ | ⟨gg, cp, h, -, -⟩
        · exact absurd h0 (by simp)
        · exact ⟨gg, cp, by rw [h, List.length_append]; rfl⟩
      obtain ⟨ll, hll⟩ : ∃ ll, (chs acc).length + 1 = ll := ⟨_, rfl⟩
      rw [hll] at hv'
      subst hv'
      clear hll
      have hlt := fun j (e : v.ownBlock = some j) => World.ownsRow.lt H3.out j e
      have nb : v.ownBlock ≠ some w0.heap.size := fun e => by
        have := (hlt _ e).1
        omega
      have o3 : One w3 w0.heap.size v 27 := (hgrow.block w0.heap.size (by simp; omega) (fun e => nb e.symm)).trans (by
        have b2 := (Below.refl _ _).alloc (Nat.le_refl _) (.cells #[.int .i64 (p.num : Int)] 3) (w := (w.alloc (.cells #[.int .i64 (p.form : Int), .int .i64 (p.num : Int), .int .i64 (n : Int), .int .i64 ((n + p.bytes.length : Nat) : Int)] 38)))
        exact (b2.block _ ON.out.lt).trans ON.out)
      have r0 := o3.c0
      have r1 := o3.free
      have O3 := Lib.hid o3
      have OWN' := Lib.hid hown'
      have GR := Lib.hid hgrow
      have BLK := Lib.hid hblk
      have NB := Lib.hid nb
      have HLT := Lib.hid hlt
      clear o3 hown' hgrow hblk nb hlt y0
      go_wp2_with fail
      go_end0
      have g2 := GR.out
      simp only [← Int.natCast_add] at g2
      have bb : ∀ (B : Nat) (z : World), B ≤ w0.heap.size → Below B z w → Below B z (w3.setCell ⟨w0.heap.size, 0, none⟩ (.slice (some ⟨gg, 0, none⟩) ll cp)) := by
        intro B z hBz hz
        have hz2 : z.heap.size ≤ w.heap.size := hz.size
        refine Below.setCell (p := ⟨w0.heap.size, 0, none⟩) ?_ hBz _
        refine ((hz.alloc (by omega) _).alloc (by simp; omega) _).grown g2 (by simp; omega) (fun k hk => ?_)
        have := (HLT.out k hk).1
        omega
      have hne : (Value.slice (some ⟨gg, 0, none⟩) ll cp).ownBlock ≠ some w0.heap.size := by
        rcases BLK.out with h | ⟨g, h, hg⟩
        · rw [h]
          exact NB.out
        · rw [h]
          intro e
          injection e with e
          omega
      have one' : One (w3.setCell ⟨w0.heap.size, 0, none⟩ (.slice (some ⟨gg, 0, none⟩) ll cp)) w0.heap.size (.slice (some ⟨gg, 0, none⟩) ll cp) 27 := O3.out.put _
      refine ⟨rfl, ⟨bb w0.heap.size w0 (Nat.le_refl _) H1.out, _, one', ?_⟩, bb w0.heap.size w (Nat.le_refl _) (Below.refl _ _), ?_⟩
      · rw [E0.out]
        exact OWN'.out.kept (grown_set w3 _ 0 _) (.inr hne)
      · intro j hj hn
        have n1 : j ≠ w0.heap.size := fun e => hn (.inl e)
        have n2 : v.ownBlock ≠ some j := fun e => hn (.inr ⟨v, H2.out, e⟩)
        refine ⟨?_, ?_⟩
        · rw [heap_setCell_other w3 ⟨w0.heap.size, 0, none⟩ j _ n1, g2.block j (by simp; omega) (fun e => n2 e.symm)]
          have b2 := ((Below.refl w.heap.size w).alloc (Nat.le_refl _) (.cells #[.int .i64 (p.form : Int), .int .i64 (p.num : Int), .int .i64 (n : Int), .int .i64 ((n + p.bytes.length : Nat) : Int)] 38)).alloc (by simp) (.cells #[.int .i64 (p.num : Int)] 3)
          exact b2.block j hj
        · rintro (h | ⟨v'', h4, h5⟩)
          · exact n1 h
          · obtain rfl := h4.uniq one'
            rcases BLK.out with h | ⟨g, h, hg⟩
            · exact n2 (by rw [← h]; exact h5)
            · rw [h] at h5
              injection h5 with h5
              omega
    · rw [if_neg q, List.append_nil] at e0
      have x0 : ((p.form : Int) == 0) = false := by rw [beq_eq_false_iff_ne]; omega
      have E0 := Lib.hid e0
      clear h1 h2 h3 hb e0 ht q
      go_enter Tryd.func25, Tryd.ntmps25
      go_wp2
      go_end0
      refine ⟨rfl, ?_, ?_⟩
      · unfold RunV
        rw [E0.out]
        exact ⟨H1.out.trans (HB.out.mono H1.out.size), v, H2.out.below HB.out H2.out.lt, H3.out.below HB.out⟩
      · refine ⟨HB.out.mono H1.out.size, fun j hj hn => ⟨HB.out.block j hj, ?_⟩⟩
        rintro (h | ⟨v', h4, h5⟩)
        · exact hn (.inl h)
        · have e : One w w0.heap.size v' 27 := (HB.out.block _ H2.out.lt).symm.trans h4
          exact hn (.inr ⟨v', e, h5⟩)

/-- Runes. -/
theorem runes_bad (s : ByteArray) (x : Int) (hx : (x != 0) = true) (w : World) (hN : Nam w)
    (C : Hid (∀ W, Nam W → Calls Tryd.prog 24 #[.string s, .func (.func 25) #[] #[.pointer (some ⟨w.heap.size, 0, none⟩)]] (w.alloc (.cells #[.slice none 0 0] 27)) fun e w' => e = .returned (.int .i64 x) ∧ Below w.heap.size w w')) :
    Calls Tryd.prog 13 #[.string s] w fun e w' => e = .returned (.tuple #[.slice none 0 0, .int .i64 x]) ∧ Below w.heap.size w w' := by
  have hmf : ∀ (fn : Fn) (first cap : Array Value) (w : World), (Instr.makeFunc fn first cap).run Tryd.prog w = .ok (.func fn first cap) w := fun _ _ _ _ => rfl
  have C1 := Lib.hid (C.out w hN)
  clear C hN
  go_enter Tryd.func13, Tryd.ntmps13
  go_wp2_with fail
  refine C1.out.mono ?_
  rintro e w2 ⟨rfl, hb2⟩
  have HB2 := Lib.hid hb2
  clear hb2
  go_wp2_with fail
  go_ret2
  exact ⟨rfl, HB2.out⟩
theorem runes_ok (s : ByteArray) (xs : List Nat) (w : World) (hN : Nam w)
    (C : Hid (∀ W, Nam W → Calls Tryd.prog 24 #[.string s, .func (.func 25) #[] #[.pointer (some ⟨w.heap.size, 0, none⟩)]] (w.alloc (.cells #[.slice none 0 0] 27)) fun e w' => e = .returned (.int .i64 0) ∧ Below w.heap.size w w' ∧ ∃ v, One w' w.heap.size v 27 ∧ Ints w' (w.heap.size + 1) v xs)) :
    Calls Tryd.prog 13 #[.string s] w fun e w' => ∃ v, e = .returned (.tuple #[v, .int .i64 0]) ∧ Ints w' (w.heap.size + 1) v xs ∧ Below w.heap.size w w' := by
  have hmf : ∀ (fn : Fn) (first cap : Array Value) (w : World), (Instr.makeFunc fn first cap).run Tryd.prog w = .ok (.func fn first cap) w := fun _ _ _ _ => rfl
  have C1 := Lib.hid (C.out w hN)
  clear C hN
  go_enter Tryd.func13, Tryd.ntmps13
  go_wp2_with fail
  refine C1.out.mono ?_
  rintro e w2 ⟨rfl, hb2, v, o2, i2⟩
  have HB2 := Lib.hid hb2
  have I2 := Lib.hid i2
  have q0 := o2.c0
  clear hb2 o2 i2
  go_wp2_with fail
  go_ret2
  exact ⟨v, rfl, I2.out, HB2.out⟩
/-- Runes' answer: the error, and the row. -/
def RunesOut (L : List UInt8) (w : World) (e : Ending) (w' : World) : Prop := ∃ v, e = .returned (.tuple #[v, .int .i64 (wholeL L)]) ∧ Ints w' (w.heap.size + 1) v (runesL L) ∧ Below w.heap.size w w'
theorem Runes_any (s : ByteArray) (hs : s.size ≤ 1125899906842624) (hl : (chs (readL (rest s 0)).ps).length ≤ 17592186044416) (w : World) (hN : Nam w) :
    Calls Tryd.prog 13 #[.string s] w (RunesOut (rest s 0) w) := by
  have c := whole_any (vis_runes s 1 (readL (rest s 0)).ps hl w hN) hs _ (RunV.new w)
  by_cases h : wholeL (rest s 0) = 0
  · refine (runes_ok s (chs (readL (rest s 0)).ps) w hN fun _ _ => ?_).mono ?_
    · refine c.mono ?_
      rintro e w' ⟨rfl, h1, h2⟩
      obtain ⟨h3, v, h4, h5⟩ := h2 h
      exact ⟨by rw [h], h3, v, h4, h5⟩
    · rintro e w' ⟨v, rfl, h1, h2⟩
      refine ⟨v, by rw [h], ?_, h2⟩
      unfold runesL
      rw [if_pos h]
      exact h1
  · refine (runes_bad s (wholeL (rest s 0)) (bne_iff_ne.2 h) w hN fun _ _ => ?_).mono ?_
    · refine c.mono ?_
      rintro e w' ⟨rfl, h1, -⟩
      exact ⟨rfl, ((Below.refl w.heap.size w).alloc (Nat.le_refl _) _).trans h1⟩
    · rintro e w' ⟨rfl, h2⟩
      refine ⟨_, rfl, ?_, h2⟩
      unfold runesL
      rw [if_neg h]
      exact World.ownsRow_nil _ _ _ _
end Go.Proofs.YtdppfhgihoibnaaDoor.Qt
