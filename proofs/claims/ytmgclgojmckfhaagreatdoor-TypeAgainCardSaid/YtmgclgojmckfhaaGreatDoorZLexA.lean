/-
  The program's lexer as a block of eight cells, and the contracts of its methods pass and skip. Conditions: the text is one of runes, of at most 2^24 bytes.
-/
import Derived.Test.YtmgclgojmckfhaaGreatDoorZLexO
import Derived.Test.YtmgclgojmckfhaaGreatDoorZMthB
import Derived.Test.YtmgclgojmckfhaaGreatDoorZPlcL
import Derived.Test.YtmgclgojmckfhaaGreatDoorZGlyB
import Derived.Test.YtmgclgojmckfhaaGreatDoorZWrdA
import Derived.Test.YtmgclgojmckfhaaGreatDoorZQtD
import Derived.Deep.QuietTactic
import Derived.BigQuiet
import Derived.Deep.RegionWith
import Derived.Deep.RegionHeld3
import Derived.Deep.AppendLies
import Derived.Deep.RegionLaw
import Derived.Deep.DeepCutAuto
namespace Go.Proofs.YtmgclgojmckfhaaGreatDoor.Lx
open Go.RowKit Gly
open Wrd (rn wd)
set_option linter.unusedSimpArgs false
set_option linter.unusedVariables false

/-- The block of a lexer: the text, the byte, line and column, the two rows, how many tokens count, the last token's line. -/
def Lb (w : World) (b : Nat) (s : ByteArray) (i : Nat) (L C : Int) (vt vn : Value) (g l : Int) : Prop :=
  w.heap[b]? = some (.cells #[.string s, .int .i64 (i : Int), .int .i64 L, .int .i64 C, vt, vn, .int .i64 g, .int .i64 l] 47 (0, 0))
section
variable {w : World} {b : Nat} {s : ByteArray} {i : Nat} {L C : Int} {vt vn : Value} {g l : Int}
theorem Lb.lt (h : Lb w b s i L C vt vn g l) : b < w.heap.size := lt_of_block h
theorem Lb.c0 (h : Lb w b s i L C vt vn g l) : w.cell? ⟨b, 0, none⟩ = some (.string s) := by rw [cell_of_row w _ _ _ _ _ h]; rfl
theorem Lb.c1 (h : Lb w b s i L C vt vn g l) : w.cell? ⟨b, 1, none⟩ = some (.int .i64 (i : Int)) := by rw [cell_of_row w _ _ _ _ _ h]; rfl
theorem Lb.c2 (h : Lb w b s i L C vt vn g l) : w.cell? ⟨b, 2, none⟩ = some (.int .i64 L) := by rw [cell_of_row w _ _ _ _ _ h]; rfl
theorem Lb.c3 (h : Lb w b s i L C vt vn g l) : w.cell? ⟨b, 3, none⟩ = some (.int .i64 C) := by rw [cell_of_row w _ _ _ _ _ h]; rfl
theorem Lb.c4 (h : Lb w b s i L C vt vn g l) : w.cell? ⟨b, 4, none⟩ = some vt := by rw [cell_of_row w _ _ _ _ _ h]; rfl
theorem Lb.c5 (h : Lb w b s i L C vt vn g l) : w.cell? ⟨b, 5, none⟩ = some vn := by rw [cell_of_row w _ _ _ _ _ h]; rfl
theorem Lb.c6 (h : Lb w b s i L C vt vn g l) : w.cell? ⟨b, 6, none⟩ = some (.int .i64 g) := by rw [cell_of_row w _ _ _ _ _ h]; rfl
theorem Lb.c7 (h : Lb w b s i L C vt vn g l) : w.cell? ⟨b, 7, none⟩ = some (.int .i64 l) := by rw [cell_of_row w _ _ _ _ _ h]; rfl
theorem Lb.free (h : Lb w b s i L C vt vn g l) (k : Nat) : w.frozen? ⟨b, k, none⟩ = false := by unfold Lb at h; simp [World.frozen?, h]
theorem Lb.below {w' : World} {B : Nat} (h : Lb w b s i L C vt vn g l) (hb : Below B w w') (hB : b < B) : Lb w' b s i L C vt vn g l := (hb.block _ hB).trans h
theorem Lb.moved (h : Lb w b s i L C vt vn g l) (C' L' : Int) (i' : Nat) : Lb (((w.setCell ⟨b, 3, none⟩ (.int .i64 C')).setCell ⟨b, 2, none⟩ (.int .i64 L')).setCell ⟨b, 1, none⟩ (.int .i64 (i' : Int))) b s i' L' C' vt vn g l := by
  unfold Lb at h ⊢
  simp [World.setCell, Array.getElem?_modify, h]
theorem Lb.set4 (h : Lb w b s i L C vt vn g l) (v : Value) : Lb (w.setCell ⟨b, 4, none⟩ v) b s i L C v vn g l := by
  unfold Lb at h ⊢
  simp [World.setCell, Array.getElem?_modify, h]
theorem Lb.set5 (h : Lb w b s i L C vt vn g l) (v : Value) : Lb (w.setCell ⟨b, 5, none⟩ v) b s i L C vt v g l := by
  unfold Lb at h ⊢
  simp [World.setCell, Array.getElem?_modify, h]
theorem Lb.set6 (h : Lb w b s i L C vt vn g l) (v : Int) : Lb (w.setCell ⟨b, 6, none⟩ (.int .i64 v)) b s i L C vt vn v l := by
  unfold Lb at h ⊢
  simp [World.setCell, Array.getElem?_modify, h]
theorem Lb.set7 (h : Lb w b s i L C vt vn g l) (v : Int) : Lb (w.setCell ⟨b, 7, none⟩ (.int .i64 v)) b s i L C vt vn g v := by
  unfold Lb at h ⊢
  simp [World.setCell, Array.getElem?_modify, h]
end
theorem grown_below {w w' : World} {B : Nat} (r : Option Nat) (h : Below B w w') (hB : w.heap.size ≤ B) : w.grownBy w' r := ⟨h.os, h.tape, h.output, h.size, fun k hk _ => h.block k (by omega)⟩
theorem grown_trans {w w1 w2 : World} {r : Option Nat} (h : w.grownBy w1 r) (k : w1.grownBy w2 r) : w.grownBy w2 r := ⟨k.os.trans h.os, k.tape.trans h.tape, k.output.trans h.output, Nat.le_trans h.size k.size, fun j hj hr => (k.block j (Nat.lt_of_lt_of_le hj h.size) hr).trans (h.block j hj hr)⟩
theorem grown_drew {w w' : World} {n : Nat} {r : Option Nat} (h : (w.drewN n).grownBy w' r) : w.grownBy w' r := ⟨h.os, h.tape, h.output, h.size, h.block⟩
theorem grown_set {w w1 : World} {b : Nat} (h : w.grownBy w1 (some b)) (k : Nat) (v : Value) : w.grownBy (w1.setCell ⟨b, k, none⟩ v) (some b) := by
  refine ⟨h.os, h.tape, h.output, ?_, fun j hj hr => ?_⟩
  · rw [World.size_setCell]
    exact h.size
  · rw [Below.heap_setCell _ _ _ _ (by intro e; exact hr (by rw [e]))]
    exact h.block j hj hr

theorem ofI_end (x : ByteArray) : Plc.ofI x ((x.size : Nat) : Int) = ((Plc.spot x 1 x.size).1, (Plc.spot x 1 x.size).2, 0) := by
  unfold Plc.ofI
  rw [if_neg (by omega), Int.toNat_natCast]
theorem widthI_in (x : ByteArray) (c : Int) (h1 : 1 ≤ c) (h2 : c ≤ 2147483648) : Plc.widthI x c = ((Plc.spot x c x.size).2, 0) := by
  unfold Plc.widthI
  rw [if_neg (by omega)]

set_option maxHeartbeats 1000000 in
/-- pass: over a piece. -/
theorem pass_any (s : ByteArray) (i j : Nat) (hs : Ok (rest s 0)) (hsz : s.size ≤ 16777216) (hp : Pc s i j) (b : Nat) (vt vn : Value) (g l : Int) (w : World) (h : Lb w b s i (lineS s i) (colS s i) vt vn g l) :
    Calls Tryz.prog 43 #[.pointer (some ⟨b, 0, none⟩), .int .i64 (j : Int)] w fun e w' => e = .returned (.tuple #[]) ∧ Lb w' b s j (lineS s j) (colS s j) vt vn g l ∧ w.grownBy w' (some b) := by
  have hz := size_piece s i j hp.le hp.fits
  have hl := piece_line hs hp
  have hc := piece_col hs hp
  have bi := spot_bd s i
  have bj := spot_bd s j
  have hle := hp.le
  have hfit := hp.fits
  have c1 := fun W => Plc.of_any (s.extract i j) (((s.extract i j).size : Nat) : Int) (by omega) W
  rw [ofI_end] at c1
  have c2 := fun W => Plc.width_any (s.extract i j) (colS s i) (by omega) W
  rw [widthI_in _ _ (by omega) (by omega)] at c2
  rw [hz] at c1 c2
  rw [← hc] at c2
  dsimp only at c1 c2
  generalize (Plc.spot (s.extract i j) 1 (j - i)).2 = oc at c1
  obtain ⟨ol, hol⟩ : ∃ ol, ol = (Plc.spot (s.extract i j) 1 (j - i)).1 := ⟨_, rfl⟩
  rw [← hol] at c1 hl
  clear hol hc
  generalize lineS s j = Lj at *
  generalize colS s j = Cj at *
  generalize lineS s i = Li at *
  generalize colS s i = Ci at *
  have C1 := Lib.hid c1
  have C2 := Lib.hid c2
  have H := Lib.hid h
  have x0 := h.c0
  have x1 := h.c1
  have i0 : (0 : Int) ≤ (i : Int) := by omega
  have i1 : (i : Int) ≤ (j : Int) := by omega
  have i2 : (j : Int) ≤ (s.size : Int) := by omega
  have y1 : wrap64 (ol - 1) = ol - 1 := by unfold wrap64; omega
  have y2 : wrap64 (Li + (ol - 1)) = Lj := by rw [← hl]; unfold wrap64; omega
  have HB := Lib.hid h.lt
  clear h c1 c2 hs hp hz hl bi bj hsz
  go_enter Tryz.func43, Tryz.ntmps43
  go_wp2_with fail
  go_quiet (fail)
  go_wp2_with fail
  refine (C1.out _).mono ?_
  rintro e w2 ⟨rfl, hb2⟩
  have H2 := Lib.hid (Lb.below (w := w.drewN nq) H.out hb2 HB.out)
  have HB2 := Lib.hid hb2
  have z3 := H2.out.c3
  clear hb2 x0 x1
  go_wp2_with fail
  refine (C2.out _).mono ?_
  rintro e w3 ⟨rfl, hb3⟩
  have H3 := Lib.hid (H2.out.below hb3 H2.out.lt)
  have HB3 := Lib.hid hb3
  have q2 := H3.out.c2
  have f1 := H3.out.free 1
  have f2 := H3.out.free 2
  have f3 := H3.out.free 3
  have q1 := H3.out.c1
  have q3 := H3.out.c3
  clear hb3 z3
  go_wp2_with fail
  go_end0
  refine ⟨rfl, H3.out.moved _ _ _, ?_⟩
  have k1 : w.grownBy w3 (some b) := grown_trans (grown_drew (grown_below (w := w.drewN nq) _ HB2.out (Nat.le_refl _))) (grown_below _ HB3.out (Nat.le_refl _))
  exact grown_set (grown_set (grown_set k1 3 _) 2 _) 1 _
theorem run_skp (s : ByteArray) (i : Nat) (hi : i ≤ s.size) : runI s (i : Int) 1 = ((skp s i : Nat) : Int) := Qt.runI_rest s i hi
/-- skip: over blanks. -/
theorem skip_any (s : ByteArray) (i : Nat) (hs : Ok (rest s 0)) (hsz : s.size ≤ 16777216) (hi : i ≤ s.size) (hbd : Bd (rest s 0) i) (b : Nat) (vt vn : Value) (g l : Int) (w : World) (h : Lb w b s i (lineS s i) (colS s i) vt vn g l) :
    Calls Tryz.prog 21 #[.pointer (some ⟨b, 0, none⟩)] w fun e w' => e = .returned (.tuple #[]) ∧ Lb w' b s (skp s i) (lineS s (skp s i)) (colS s (skp s i)) vt vn g l ∧ w.grownBy w' (some b) := by
  have c1 := fun W => run_any s (i : Int) 1 (by unfold maxLen; omega) W
  rw [run_skp s i hi] at c1
  have C1 := Lib.hid c1
  have C2 := Lib.hid (fun W h => pass_any s i (skp s i) hs hsz (pc_skip hbd hi) b vt vn g l W h)
  clear c1 hs hsz hi hbd
  generalize lineS s (skp s i) = L' at *
  generalize colS s (skp s i) = C' at *
  generalize skp s i = j at *
  have H := Lib.hid h
  have x0 := h.c0
  have x1 := h.c1
  clear h
  go_enter Tryz.func21, Tryz.ntmps21
  go_region_with (first
    | (go_at_call 44; refine (C1.out _).mono ?_; rintro e w2 ⟨rfl, hb2⟩; have H2 := Lib.hid (Lb.below (w := w.drew) H.out hb2 H.out.lt); have HB2 := Lib.hid (grown_drew (n := 1) (grown_below (some b) hb2 (Nat.le_refl _))); clear hb2)
    | (go_at_call 43; refine (C2.out _ H2.out).mono ?_; rintro e w3 ⟨rfl, h3, g3⟩))
  all_goals go_end0
  all_goals exact ⟨rfl, h3, grown_trans HB2.out g3⟩
end Go.Proofs.YtmgclgojmckfhaaGreatDoor.Lx
/-
  What the program's lexer holds while it reads, and the contract of its method token. Conditions: the text is one of runes, of at most 2^24 bytes.
-/
namespace Go.Proofs.YtmgclgojmckfhaaGreatDoor.Lx
open Go.RowKit Gly
open Wrd (rn wd)
set_option linter.unusedSimpArgs false
set_option linter.unusedVariables false

/-- The lexer's block lies at the end of the world as it was; behind it lie the rows. -/
structure Lr (s : ByteArray) (w0 w : World) (i : Nat) (L C : Int) (vt vn : Value) (toks : List It) (notes : List Nt) (g l : Int) : Prop where
  blk : Lb w w0.heap.size s i L C vt vn g l
  tok : Toks s w (w0.heap.size + 1) vt toks
  nts : Notes s w (w0.heap.size + 1) vn notes
  sep : ∀ b, vt.ownBlock = some b → vn.ownBlock ≠ some b
  bel : Below w0.heap.size w0 w
section
variable {s : ByteArray} {w0 w : World} {i : Nat} {L C : Int} {vt vn : Value} {toks : List It} {notes : List Nt} {g l : Int}
theorem Lr.size (h : Lr s w0 w i L C vt vn toks notes g l) : w0.heap.size + 1 ≤ w.heap.size := h.blk.lt
theorem Lr.below {w' : World} {B : Nat} (h : Lr s w0 w i L C vt vn toks notes g l) (hb : Below B w w') (hB : w.heap.size ≤ B) : Lr s w0 w' i L C vt vn toks notes g l where
  blk := h.blk.below hb (Nat.lt_of_lt_of_le h.blk.lt hB)
  tok := h.tok.below hb hB
  nts := h.nts.below hb hB
  sep := h.sep
  bel := h.bel.trans (hb.mono (Nat.le_trans h.bel.size hB))
theorem Lr.drew (h : Lr s w0 w i L C vt vn toks notes g l) (n : Nat) : Lr s w0 (w.drewN n) i L C vt vn toks notes g l := h.below (Plc.below_drewN (Below.refl w.heap.size _) n) (Nat.le_refl _)
theorem Lr.alloc (h : Lr s w0 w i L C vt vn toks notes g l) (o : Obj) : Lr s w0 (w.alloc o) i L C vt vn toks notes g l := h.below ((Below.refl _ _).alloc (Nat.le_refl _) o) (Nat.le_refl _)
/-- Behind a method that has moved on. -/
theorem Lr.moved {w' : World} {i' : Nat} {L' C' g' l' : Int} (h : Lr s w0 w i L C vt vn toks notes g l) (hb : Lb w' w0.heap.size s i' L' C' vt vn g' l') (hg : w.grownBy w' (some w0.heap.size)) : Lr s w0 w' i' L' C' vt vn toks notes g' l' where
  blk := hb
  tok := h.tok.kept hg (by
    rcases hv : vt.ownBlock with _ | k
    · exact .inl rfl
    · right
      intro e
      injection e with e
      have := (World.ownsRow.lt h.tok k hv).1
      omega)
  nts := h.nts.kept hg (by
    rcases hv : vn.ownBlock with _ | k
    · exact .inl rfl
    · right
      intro e
      injection e with e
      have := (World.ownsRow.lt h.nts k hv).1
      omega)
  sep := h.sep
  bel := Below.grown h.bel hg h.bel.size (fun k hk => by injection hk with hk; omega)
theorem Lr.grownT {W2 : World} (h : Lr s w0 w i L C vt vn toks notes g l) (hg : w.grownBy W2 vt.ownBlock) : Lb W2 w0.heap.size s i L C vt vn g l := by
  have hlt := World.ownsRow.lt h.tok
  refine (hg.block _ h.blk.lt (fun e => ?_)).trans h.blk
  have := (hlt _ e.symm).1
  omega
theorem Lr.grownN {W2 : World} (h : Lr s w0 w i L C vt vn toks notes g l) (hg : w.grownBy W2 vn.ownBlock) : Lb W2 w0.heap.size s i L C vt vn g l := by
  have hlt := World.ownsRow.lt h.nts
  refine (hg.block _ h.blk.lt (fun e => ?_)).trans h.blk
  have := (hlt _ e.symm).1
  omega
/-- A token more; a comment more. -/
theorem Lr.pushT {W2 : World} {v' : Value} {t : It} (h : Lr s w0 w i L C vt vn toks notes g l) (hn : Toks s W2 (w0.heap.size + 1) v' (toks ++ [t])) (hg : w.grownBy W2 vt.ownBlock) (ha : v'.ownBlock = vt.ownBlock ∨ v'.ownBlock = some w.heap.size) :
    Lr s w0 (W2.setCell ⟨w0.heap.size, 4, none⟩ v') i L C v' vn (toks ++ [t]) notes g l := by
  have hlt := World.ownsRow.lt h.tok
  have hlt2 := World.ownsRow.lt h.nts
  have ht : Notes s W2 (w0.heap.size + 1) vn notes := by
    refine h.nts.kept hg ?_
    rcases hv : vn.ownBlock with _ | b
    · exact .inl rfl
    · exact .inr (fun e => h.sep b e.symm hv)
  refine ⟨(h.grownT hg).set4 v', ownsRow_setCell_below hn (by dsimp only; omega) _, ownsRow_setCell_below ht (by dsimp only; omega) _, ?_, ?_⟩
  · intro b hb e
    rcases ha with q | q
    · rw [q] at hb
      exact h.sep b hb e
    · rw [q] at hb
      injection hb with hb
      have := (hlt2 b e).2
      omega
  · refine (Below.grown h.bel hg h.bel.size (fun k hk => ?_)).setCell (by dsimp only; omega) _
    have := (hlt k hk).1
    omega
theorem Lr.pushN {W2 : World} {v' : Value} {n : Nt} (h : Lr s w0 w i L C vt vn toks notes g l) (hn : Notes s W2 (w0.heap.size + 1) v' (notes ++ [n])) (hg : w.grownBy W2 vn.ownBlock) (ha : v'.ownBlock = vn.ownBlock ∨ v'.ownBlock = some w.heap.size) :
    Lr s w0 (W2.setCell ⟨w0.heap.size, 5, none⟩ v') i L C vt v' toks (notes ++ [n]) g l := by
  have hlt := World.ownsRow.lt h.nts
  have hlt2 := World.ownsRow.lt h.tok
  have ht : Toks s W2 (w0.heap.size + 1) vt toks := by
    refine h.tok.kept hg ?_
    rcases hv : vt.ownBlock with _ | b
    · exact .inl rfl
    · exact .inr (fun e => h.sep b hv e.symm)
  refine ⟨(h.grownN hg).set5 v', ownsRow_setCell_below ht (by dsimp only; omega) _, ownsRow_setCell_below hn (by dsimp only; omega) _, ?_, ?_⟩
  · intro b hb e
    rcases ha with q | q
    · rw [q] at e
      exact h.sep b hb e
    · rw [q] at e
      injection e with e
      have := (hlt2 b hb).2
      omega
  · refine (Below.grown h.bel hg h.bel.size (fun k hk => ?_)).setCell (by dsimp only; omega) _
    have := (hlt k hk).1
    omega
theorem Lr.set6 (h : Lr s w0 w i L C vt vn toks notes g l) (x : Int) : Lr s w0 (w.setCell ⟨w0.heap.size, 6, none⟩ (.int .i64 x)) i L C vt vn toks notes x l :=
  ⟨h.blk.set6 x, ownsRow_setCell_below h.tok (by dsimp only; omega) _, ownsRow_setCell_below h.nts (by dsimp only; omega) _, h.sep, h.bel.setCell (Nat.le_refl _) _⟩
theorem Lr.set7 (h : Lr s w0 w i L C vt vn toks notes g l) (x : Int) : Lr s w0 (w.setCell ⟨w0.heap.size, 7, none⟩ (.int .i64 x)) i L C vt vn toks notes g x :=
  ⟨h.blk.set7 x, ownsRow_setCell_below h.tok (by dsimp only; omega) _, ownsRow_setCell_below h.nts (by dsimp only; omega) _, h.sep, h.bel.setCell (Nat.le_refl _) _⟩
end

/-- append of one token within a region that draws. -/
theorem step_tok (s : ByteArray) (w : World) {ops : Array Oper} {o : Oper} {a : Act} {K : Act → World → Prop} {Q : Exit → Act → World → Prop} {E : Prop} (hg : o.guard = none) (sl x : Operand) (hop : o.op = Op.call { callee := Callee.builtin Builtin.append, args := #[sl, x], argTypes := #[23, 23] })
    (base : Nat) (v : Value) (l : List It) (hs : a.eval sl = v) (hown : Toks s w base v l) (ad : Addr) (t : It) (c : Nat) (hx : a.eval x = .slice (some ad) 1 c) (hc : ∀ (j : Nat) u, (tokC s t)[j]? = some u → w.cell? (ad.add j) = some u) (b1 : l.length + 1 ≤ 1099511627776) (hB : base ≤ w.heap.size)
    (hK : ∀ h cap w', Toks s w' base (.slice (some ⟨h, 0, none⟩) (l.length + 1) cap) (l ++ [t]) → w.grownBy w' v.ownBlock → (v.ownBlock = some h ∨ h = w.heap.size) → K (a.put o.dst (.slice (some ⟨h, 0, none⟩) (l.length + 1) cap)) w') :
    if Region.wanted o (yielded ops a.tmps) = true then Oper.wp Tryz.prog o a w K Q else E := by
  obtain ⟨i0, hi, hz0, hz1, hz2⟩ := info_parts infoTok
  refine step_append_lies w hg sl x 23 hop base 41 i0 _ 4 40 Tryz.underlying23 hi hz0 hz1 hz2 rfl (by decide) v l.length (l.flatMap (tokC s)) hs hown ad 1 c (tokC s t) hx rfl hc ?_ (by decide) (by unfold maxLen; omega) (by omega) hB w.heap.size rfl ?_
  · intro u hu
    simp only [tokC, List.mem_cons, List.not_mem_nil, or_false] at hu
    rcases hu with rfl | rfl | rfl | rfl <;> rfl
  · intro h cap w' h1 h2 h3 _
    refine hK h cap w' ?_ h2 h3
    unfold Toks
    rw [List.length_append, List.flatMap_append]
    simpa using h1
theorem step_note (s : ByteArray) (w : World) {ops : Array Oper} {o : Oper} {a : Act} {K : Act → World → Prop} {Q : Exit → Act → World → Prop} {E : Prop} (hg : o.guard = none) (sl x : Operand) (hop : o.op = Op.call { callee := Callee.builtin Builtin.append, args := #[sl, x], argTypes := #[24, 24] })
    (base : Nat) (v : Value) (l : List Nt) (hs : a.eval sl = v) (hown : Notes s w base v l) (ad : Addr) (t : Nt) (c : Nat) (hx : a.eval x = .slice (some ad) 1 c) (hc : ∀ (j : Nat) u, (noteC s t)[j]? = some u → w.cell? (ad.add j) = some u) (b1 : l.length + 1 ≤ 1099511627776) (hB : base ≤ w.heap.size)
    (hK : ∀ h cap w', Notes s w' base (.slice (some ⟨h, 0, none⟩) (l.length + 1) cap) (l ++ [t]) → w.grownBy w' v.ownBlock → (v.ownBlock = some h ∨ h = w.heap.size) → K (a.put o.dst (.slice (some ⟨h, 0, none⟩) (l.length + 1) cap)) w') :
    if Region.wanted o (yielded ops a.tmps) = true then Oper.wp Tryz.prog o a w K Q else E := by
  obtain ⟨i0, hi, hz0, hz1, hz2⟩ := info_parts infoNote
  refine step_append_lies w hg sl x 24 hop base 94 i0 _ 5 48 Tryz.underlying24 hi hz0 hz1 hz2 rfl (by decide) v l.length (l.flatMap (noteC s)) hs hown ad 1 c (noteC s t) hx rfl hc ?_ (by decide) (by unfold maxLen; omega) (by omega) hB w.heap.size rfl ?_
  · intro u hu
    simp only [noteC, List.mem_cons, List.not_mem_nil, or_false] at hu
    rcases hu with rfl | rfl | rfl | rfl | rfl <;> rfl
  · intro h cap w' h1 h2 h3 _
    refine hK h cap w' ?_ h2 h3
    unfold Notes
    rw [List.length_append, List.flatMap_append]
    simpa using h1

/-- A token's text tells alone whether it counts. -/
theorem counts_is {s : ByteArray} {j : Nat} {t : It} (hn : nxt s j = .item t) (ht : isNote t = false) : counts s t = countsT (txt s t) := by
  obtain ⟨h1, h2, h3, h4, h5, h6⟩ := nxt_item hn
  rcases h6 with ⟨a, -⟩ | ⟨a, b, c, d, e, f⟩
  · unfold isNote at ht
    have := of_decide_eq_false ht
    omega
  · have hx : (txt s t).data.toList = (rest s j).take (lexL (rest s j)).2.1 := by
      unfold txt
      rw [h2, f, piece_rest]
    have hal := lex_alone (rest s j) d
    unfold counts countsT
    rw [hx]
    have key : ∀ x : List UInt8, (lexL x).1 = 15 → (rest s j).take (lexL (rest s j)).2.1 = x → t.kind = 15 := by
      intro x h e2
      rw [e2] at hal
      rw [e, ← hal, h]
    by_cases k : t.kind = 15
    · rw [beq_iff_eq.2 k, Bool.true_and]
    · have n1 : ((rest s j).take (lexL (rest s j)).2.1 == [123]) = false := beq_eq_false_iff_ne.2 fun q => k (key _ (by decide +kernel) q)
      have n2 : ((rest s j).take (lexL (rest s j)).2.1 == [125]) = false := beq_eq_false_iff_ne.2 fun q => k (key _ (by decide +kernel) q)
      have n3 : ((rest s j).take (lexL (rest s j)).2.1 == [59]) = false := beq_eq_false_iff_ne.2 fun q => k (key _ (by decide +kernel) q)
      rw [n1, n2, n3, beq_eq_false_iff_ne.2 k]
      rfl
end Go.Proofs.YtmgclgojmckfhaaGreatDoor.Lx
/-
  The contract of the method token of the program's lexer. Conditions: the text is one of runes, of at most 2^24 bytes.
-/
namespace Go.Proofs.YtmgclgojmckfhaaGreatDoor.Lx
open Go.RowKit Gly
open Wrd (rn wd)
set_option linter.unusedSimpArgs false
set_option linter.unusedVariables false

theorem new_cell (w : World) (cs : Array Value) (t : TypeId) (k : Nat) : (w.alloc (.cells cs t)).cell? ⟨w.heap.size, k, none⟩ = cs[k]? := by
  rw [cell_of_row _ _ _ _ _ _ (heap_alloc_new w (.cells cs t))]
set_option maxHeartbeats 4000000 in
theorem token_any (s : ByteArray) (J E : Nat) (k : Int) (hs : Ok (rest s 0)) (hsz : s.size ≤ 16777216) (hp : Pc s J E) (vt vn : Value) (toks : List It) (notes : List Nt) (g l : Int) (hc : toks.length ≤ 16777216) (hg : 0 ≤ g ∧ g ≤ 16777216) (w0 w : World)
    (h : Lr s w0 w J (lineS s J) (colS s J) vt vn toks notes g l) :
    Calls Tryz.prog 48 #[.pointer (some ⟨w0.heap.size, 0, none⟩), .int .i64 k, .int .i64 (E : Int)] w fun e w' => e = .returned (.tuple #[]) ∧
      ∃ vt', Lr s w0 w' E (lineS s E) (colS s E) vt' vn (toks ++ [⟨k, J, E⟩]) notes (if countsT (s.extract J E) = true then g + 1 else g) (lineS s E) := by
  obtain ⟨G, hG⟩ : ∃ G, G = if countsT (s.extract J E) = true then g + 1 else g := ⟨_, rfl⟩
  rw [← hG]
  have HG := Lib.hid hG
  clear hG
  have C1 := Lib.hid (fun vt vn g l W h => pass_any s J E hs hsz hp w0.heap.size vt vn g l W h)
  have hz := size_piece s J E hp.le hp.fits
  have i0 : (0 : Int) ≤ (J : Int) := by omega
  have i1 : (J : Int) ≤ (E : Int) := by have := hp.le; omega
  have i2 : (E : Int) ≤ (s.size : Int) := by have := hp.fits; omega
  have hgw : wrap64 (g + 1) = g + 1 := by unfold wrap64; omega
  have H := Lib.hid h
  have HC := Lib.hid hc
  have x0 := h.blk.c0
  have x1 := h.blk.c1
  clear h hs hsz hp hc hg
  go_enter Tryz.func48, Tryz.ntmps48
  go_wp2_with fail
  go_quiet (fail)
  have HL := Lib.hid (H.out.drew nq)
  generalize w.drewN nq = Wq at HL ⊢
  clear H x0 x1
  have a2 := HL.out.blk.c2
  have a3 := HL.out.blk.c3
  have a4 := HL.out.blk.c4
  have b4 := fun o => (HL.out.alloc o).blk.c4
  have HA := Lib.hid ((HL.out.alloc (.cells #[.int .i64 k, .string (s.extract J E), .int .i64 (lineS s J), .int .i64 (colS s J)] 41)).drew 1)
  have HNC := Lib.hid (new_cell Wq #[.int .i64 k, .string (s.extract J E), .int .i64 (lineS s J), .int .i64 (colS s J)] 41)
  go_upto_region 1 with fail
  go_cut [6] (fun tx wx => tx = .string (s.extract J E) ∧ ∃ vt', Lr s w0 wx J (lineS s J) (colS s J) vt' vn (toks ++ [⟨k, J, E⟩]) notes g l)
  case first =>
    go_region_law (refine step_tok s _ rfl _ _ rfl (w0.heap.size + 1) vt toks rfl HA.out.tok ⟨Wq.heap.size, 0, none⟩ ⟨k, J, E⟩ 1 rfl (fun j u hj => by rw [add_plain]; exact (HNC.out j).trans (by simpa [tokC, txt] using hj)) (by have := HC.out; omega) HA.out.size ?_; intro g' cap w1 g1 g2 g3; have HP := Lib.hid (HA.out.pushT g1 g2 (g3.elim (fun e => .inl e.symm) (fun e => .inr (congrArg some e)))); have d4 := (HA.out.grownT g2).c4; have f4 := (HA.out.grownT g2).free 4; clear g1 g2 g3)
    all_goals go_wp2_with fail
    all_goals go_meet
    all_goals exact ⟨rfl, _, HP.out⟩
  case rest =>
    obtain ⟨rfl, vt', hr⟩ := hcut
    have HR := Lib.hid hr
    clear hr a2 a3 a4 b4 HA HNC HL
    have C2 := Lib.hid (fun W => counts_any (s.extract J E) W)
    cases hcc : countsT (s.extract J E) with
    | false =>
      have C3 : Hid (∀ W, Calls Tryz.prog 63 #[.string (s.extract J E)] W fun e w' => e = .returned (.bool false) ∧ W = w') := fun W => by
        have := C2.out W
        rw [hcc] at this
        exact this
      have hG : G = g := by rw [HG.out, hcc]; rfl
      clear C2 hcc HG
      go_wp2_with fail
      refine (C3.out _).mono ?_
      rintro e w2 ⟨rfl, rfl⟩
      go_wp2_with fail
      refine (C1.out _ _ _ _ _ HR.out.blk).mono ?_
      rintro e w3 ⟨rfl, h3, g3⟩
      have HM := Lib.hid (HR.out.moved h3 g3)
      have e2 := h3.c2
      have e7 := h3.c7
      have f7 := h3.free 7
      clear h3 g3
      go_wp2_with fail
      go_end0
      refine ⟨rfl, vt', ?_⟩
      rw [hG]
      exact HM.out.set7 _
    | true =>
      have C3 : Hid (∀ W, Calls Tryz.prog 63 #[.string (s.extract J E)] W fun e w' => e = .returned (.bool true) ∧ W = w') := fun W => by
        have := C2.out W
        rw [hcc] at this
        exact this
      have hG : G = g + 1 := by rw [HG.out, hcc]; rfl
      have HG2 := Lib.hid hG
      clear C2 hcc HG hG
      have e6 := HR.out.blk.c6
      have f6 := HR.out.blk.free 6
      go_wp2_with fail
      refine (C3.out _).mono ?_
      rintro e w2 ⟨rfl, rfl⟩
      go_wp2_with fail
      have H6 := Lib.hid (HR.out.set6 (g + 1))
      clear e6 f6
      go_wp2_with fail
      refine (C1.out _ _ _ _ _ H6.out.blk).mono ?_
      rintro e w3 ⟨rfl, h3, g3⟩
      have HM := Lib.hid (H6.out.moved h3 g3)
      have e2 := h3.c2
      have e7 := h3.c7
      have f7 := h3.free 7
      clear h3 g3
      go_wp2_with fail
      go_end0
      refine ⟨rfl, vt', ?_⟩
      rw [HG2.out]
      exact HM.out.set7 _
end Go.Proofs.YtmgclgojmckfhaaGreatDoor.Lx
/-
  The contract of the method comment of the program's lexer. Conditions: the text is one of runes, of at most 2^24 bytes.
-/
namespace Go.Proofs.YtmgclgojmckfhaaGreatDoor.Lx
open Go.RowKit Gly
open Wrd (rn wd)
set_option linter.unusedSimpArgs false
set_option linter.unusedVariables false

/-- A comment's block. -/
def Nb (w : World) (b : Nat) (x : ByteArray) (g p L C : Int) : Prop := w.heap[b]? = some (.cells #[.string x, .int .i64 g, .int .i64 p, .int .i64 L, .int .i64 C] 94 (0, 0))
section
variable {w : World} {b : Nat} {x : ByteArray} {g p L C : Int}
theorem Nb.c0 (h : Nb w b x g p L C) : w.cell? ⟨b, 0, none⟩ = some (.string x) := by rw [cell_of_row w _ _ _ _ _ h]; rfl
theorem Nb.c1 (h : Nb w b x g p L C) : w.cell? ⟨b, 1, none⟩ = some (.int .i64 g) := by rw [cell_of_row w _ _ _ _ _ h]; rfl
theorem Nb.c2 (h : Nb w b x g p L C) : w.cell? ⟨b, 2, none⟩ = some (.int .i64 p) := by rw [cell_of_row w _ _ _ _ _ h]; rfl
theorem Nb.c3 (h : Nb w b x g p L C) : w.cell? ⟨b, 3, none⟩ = some (.int .i64 L) := by rw [cell_of_row w _ _ _ _ _ h]; rfl
theorem Nb.c4 (h : Nb w b x g p L C) : w.cell? ⟨b, 4, none⟩ = some (.int .i64 C) := by rw [cell_of_row w _ _ _ _ _ h]; rfl
theorem Nb.free (h : Nb w b x g p L C) (k : Nat) : w.frozen? ⟨b, k, none⟩ = false := by unfold Nb at h; simp [World.frozen?, h]
theorem Nb.set2 (h : Nb w b x g p L C) (v : Int) : Nb (w.setCell ⟨b, 2, none⟩ (.int .i64 v)) b x g v L C := by
  unfold Nb at h ⊢
  simp [World.setCell, Array.getElem?_modify, h]
theorem Nb.grown {w' : World} {k : Nat} (h : Nb w b x g p L C) (hg : w.grownBy w' (some k)) (hk : b ≠ k) : Nb w' b x g p L C :=
  (hg.block _ (lt_of_block h) (fun e => hk (by injection e))).trans h
end
theorem Lr.set_far {s : ByteArray} {w0 w : World} {i : Nat} {L C : Int} {vt vn : Value} {toks : List It} {notes : List Nt} {g l : Int} (h : Lr s w0 w i L C vt vn toks notes g l) (b k : Nat) (v : Value) (hb : w0.heap.size < b) (h1 : vt.ownBlock ≠ some b) (h2 : vn.ownBlock ≠ some b) :
    Lr s w0 (w.setCell ⟨b, k, none⟩ v) i L C vt vn toks notes g l where
  blk := setCell_other h.blk (by dsimp only; omega)
  tok := ownsRow_setCell_other h.tok h1 _
  nts := ownsRow_setCell_other h.nts h2 _
  sep := h.sep
  bel := h.bel.setCell (by dsimp only; omega) _

set_option maxHeartbeats 4000000 in
theorem comment_any (s : ByteArray) (J E : Nat) (hs : Ok (rest s 0)) (hsz : s.size ≤ 16777216) (hp : Pc s J E) (vt vn : Value) (toks : List It) (notes : List Nt) (gap : Nat) (l : Int) (hc : notes.length ≤ 16777216) (w0 w : World)
    (h : Lr s w0 w J (lineS s J) (colS s J) vt vn toks notes (gap : Int) l) :
    Calls Tryz.prog 46 #[.pointer (some ⟨w0.heap.size, 0, none⟩), .int .i64 (E : Int)] w fun e w' => e = .returned (.tuple #[]) ∧
      ∃ vn', Lr s w0 w' (skp s E) (lineS s (skp s E)) (colS s (skp s E)) vt vn' toks (notes ++ [⟨⟨-1, J, E⟩, gap, placeP s l ⟨-1, J, E⟩⟩]) (gap : Int) l := by
  have hbE : Bd (rest s 0) E := by
    have := hp.from_.add (n := J) (m := E - J) (by rw [rest_drop, Nat.zero_add]; exact hp.to)
    rw [show J + (E - J) = E by have := hp.le; omega] at this
    exact this
  have C1 := Lib.hid (fun vt vn g l W h => pass_any s J E hs hsz hp w0.heap.size vt vn g l W h)
  have C2 := Lib.hid (fun vt vn g l W h => skip_any s E hs hsz hp.fits hbE w0.heap.size vt vn g l W h)
  have HSK := Lib.hid (skp_le s E hp.fits)
  obtain ⟨P, hP⟩ : ∃ P, P = placeP s l ⟨-1, J, E⟩ := ⟨_, rfl⟩
  rw [← hP]
  have hP2 : P = if lineS s E = l ∧ lineS s (skp s E) = lineS s J ∧ skp s E < s.size then 1 else if lineS s E = l then 2 else 3 := hP
  have HP := Lib.hid hP2
  clear hP hP2
  have i0 : (0 : Int) ≤ (J : Int) := by omega
  have i1 : (J : Int) ≤ (E : Int) := by have := hp.le; omega
  have i2 : (E : Int) ≤ (s.size : Int) := by have := hp.fits; omega
  have H := Lib.hid h
  have HC := Lib.hid hc
  have x0 := h.blk.c0
  have x1 := h.blk.c1
  have x2 := h.blk.c2
  have x3 := h.blk.c3
  have x6 := h.blk.c6
  have X0 : Hid (∀ p, noteC s ⟨⟨-1, J, E⟩, gap, p⟩ = [.string (s.extract J E), .int .i64 (gap : Int), .int .i64 p, .int .i64 (lineS s J), .int .i64 (colS s J)]) := fun p => rfl
  have HNB : ∀ t, Hid (Nb ((w.alloc (.cells #[.string (s.extract J E), .int .i64 (gap : Int), .int .i64 3, .int .i64 (lineS s J), .int .i64 (colS s J)] 94)).drewN t) w.heap.size (s.extract J E) (gap : Int) 3 (lineS s J) (colS s J)) := fun t => heap_alloc_new w _
  have HLA := fun t => Lib.hid ((H.out.alloc (.cells #[.string (s.extract J E), .int .i64 (gap : Int), .int .i64 3, .int .i64 (lineS s J), .int .i64 (colS s J)] 94)).drew t)
  have HBT := Lib.hid (World.ownsRow.lt h.tok)
  have HBN := Lib.hid (World.ownsRow.lt h.nts)
  have HSZ := Lib.hid h.size
  clear h hs hsz hp hc hbE
  generalize lineS s J = L at *
  generalize colS s J = C at *
  generalize lineS s E = TL at *
  generalize colS s E = TC at *
  generalize lineS s (skp s E) = L' at *
  generalize colS s (skp s E) = C' at *
  generalize skp s E = J' at *
  obtain ⟨jn, hjn⟩ : ∃ jn, (TL == l) = jn := ⟨_, rfl⟩
  go_enter Tryz.func46, Tryz.ntmps46
  go_wp2_with fail
  go_region_held3 (fun w' => w'.cell? ⟨w0.heap.size, 0, none⟩ = some (.string s) ∧ w'.cell? ⟨w0.heap.size, 1, none⟩ = some (.int .i64 (J : Int)) ∧ w'.cell? ⟨w0.heap.size, 2, none⟩ = some (.int .i64 L) ∧ w'.cell? ⟨w0.heap.size, 3, none⟩ = some (.int .i64 C) ∧ w'.cell? ⟨w0.heap.size, 6, none⟩ = some (.int .i64 (gap : Int))) (go_keep) (first | fail)
  obtain ⟨W1, hW1⟩ : ∃ W1, W1 = (w.alloc (.cells #[.string (s.extract J E), .int .i64 (gap : Int), .int .i64 3, .int .i64 L, .int .i64 C] 94)).drew := ⟨_, rfl⟩
  have HL1 : Hid (Lr s w0 W1 J L C vt vn toks notes (gap : Int) l) := by rw [hW1]; exact HLA 1
  have HN1 : Hid (Nb W1 w.heap.size (s.extract J E) (gap : Int) 3 L C) := by rw [hW1]; exact HNB 1
  rw [← hW1]
  clear hW1 HLA HNB H x0 x1 x2 x3 x6
  generalize w.heap.size = nb at *
  have HSB : Hid (w0.heap.size < nb) := HSZ.out
  have BT : Hid (vt.ownBlock ≠ some nb) := fun e => by have := (HBT.out _ e).2; omega
  have BN : Hid (vn.ownBlock ≠ some nb) := fun e => by have := (HBN.out _ e).2; omega
  clear HBT HBN HSZ
  go_wp2_with fail
  refine (C1.out _ _ _ _ _ HL1.out.blk).mono ?_
  rintro e w2 ⟨rfl, h2, g2⟩
  have HL2 := Lib.hid (HL1.out.moved h2 g2)
  have HN2 := Lib.hid (HN1.out.grown g2 (by have := HSB.out; omega))
  have e2 := h2.c2
  have e7 := h2.c7
  clear h2 g2 HL1 HN1
  go_wp2_with fail
  go_quiet (fail)
  have HL3 := Lib.hid (HL2.out.drew nq)
  have HN3 : Hid (Nb (w2.drewN nq) nb (s.extract J E) (gap : Int) 3 L C) := HN2.out
  generalize w2.drewN nq = W2 at HL3 HN3 ⊢
  clear HL2 HN2 e2 e7
  go_wp2_with fail
  refine (C2.out _ _ _ _ _ HL3.out.blk).mono ?_
  rintro e w3 ⟨rfl, h3, g3⟩
  have HL4 := Lib.hid (HL3.out.moved h3 g3)
  have HN4 := Lib.hid (HN3.out.grown g3 (by have := HSB.out; omega))
  have e0 := h3.c0
  have e1 := h3.c1
  have e2 := h3.c2
  have n3 := HN4.out.c3
  clear h3 g3 HL3 HN3
  obtain ⟨X, hX⟩ : ∃ X, X = (jn && (L' == L) && decide (J' < s.size)) := ⟨_, rfl⟩
  have HX := Lib.hid hX
  clear hX
  go_upto_region 4 with fail
  go_cut [43] (fun b wx => b = .bool X ∧ ∃ n, wx = w3.drewN n)
  case first =>
    have hX := HX.out
    cases jn with
    | false =>
      have HX0 : Hid (X = false) := hX
      clear hX HX
      go_quiet (fail)
      go_wp2_with fail
      go_meet
      case rel => rw [HX0.out]; exact ⟨rfl, _, rfl⟩
    | true =>
      by_cases q1 : L' = L
      · have t1 : (L' == L) = true := by rw [beq_iff_eq]; exact q1
        by_cases q2 : J' < s.size
        · have t2 : decide (J' < s.size) = true := decide_eq_true q2
          have t3 : decide ((J' : Int) < (s.size : Int)) = true := decide_eq_true (by omega)
          have HX0 : Hid (X = true) := by unfold Hid; rw [hX, t1, t2]; rfl
          clear hX HX q1 q2
          go_quiet (fail)
          go_wp2_with fail
          go_meet
          case rel => rw [HX0.out]; exact ⟨rfl, _, rfl⟩
        · have t2 : decide (J' < s.size) = false := decide_eq_false q2
          have t3 : decide ((J' : Int) < (s.size : Int)) = false := decide_eq_false (by omega)
          have HX0 : Hid (X = false) := by unfold Hid; rw [hX, t1, t2]; rfl
          clear hX HX q1 q2
          go_quiet (fail)
          go_wp2_with fail
          go_meet
          case rel => rw [HX0.out]; exact ⟨rfl, _, rfl⟩
      · have t1 : (L' == L) = false := by rw [beq_eq_false_iff_ne]; exact q1
        have HX0 : Hid (X = false) := by unfold Hid; rw [hX, t1]; rfl
        clear hX HX q1
        go_quiet (fail)
        go_wp2_with fail
        go_meet
        case rel => rw [HX0.out]; exact ⟨rfl, _, rfl⟩
  case rest =>
    obtain ⟨rfl, n, hwc⟩ := hcut
    have HL5 : Hid (Lr s w0 wc J' L' C' vt vn toks notes (gap : Int) l) := by rw [hwc]; exact HL4.out.drew n
    have HN5 : Hid (Nb wc nb (s.extract J E) (gap : Int) 3 L C) := by rw [hwc]; exact HN4.out
    clear hwc HL4 HN4 e0 e1 e2 n3
    have hX := HX.out
    have hP := HP.out
    have f2 := HN5.out.free 2
    have n2 := HN5.out.c2
    cases hXX : X with
    | true =>
      have k : jn = true ∧ L' = L ∧ J' < s.size := by
        rw [hXX] at hX
        have h1 := hX.symm
        rw [Bool.and_eq_true, Bool.and_eq_true] at h1
        exact ⟨h1.1.1, beq_iff_eq.1 h1.1.2, of_decide_eq_true h1.2⟩
      have HP1 : Hid (P = 1) := by
        rw [k.1] at hjn
        unfold Hid
        rw [hP, if_pos ⟨beq_iff_eq.1 hjn, k.2⟩]
      clear hX hP k HX HP hXX
      go_upto_region 8 with fail
      have HL6 : Hid (Lr s w0 (wc.setCell ⟨nb, 2, none⟩ (.int .i64 1)) J' L' C' vt vn toks notes (gap : Int) l) := HL5.out.set_far nb 2 _ HSB.out BT.out BN.out
      have HN6 : Hid (Nb (wc.setCell ⟨nb, 2, none⟩ (.int .i64 1)) nb (s.extract J E) (gap : Int) 1 L C) := HN5.out.set2 1
      generalize (wc.setCell ⟨nb, 2, none⟩ (.int .i64 1)) = W8 at HL6 HN6 ⊢
      clear HL5 HN5
      have a5 := HL6.out.blk.c5
      have b5 := fun o => (HL6.out.alloc o).blk.c5
      have n0 := HN6.out.c0
      have n1 := HN6.out.c1
      have n2 := HN6.out.c2
      have n3 := HN6.out.c3
      have n4 := HN6.out.c4
      have HA := Lib.hid ((HL6.out.alloc (.cells #[.string (s.extract J E), .int .i64 (gap : Int), .int .i64 1, .int .i64 L, .int .i64 C] 94)).drew 1)
      have HNC := Lib.hid (new_cell W8 #[.string (s.extract J E), .int .i64 (gap : Int), .int .i64 1, .int .i64 L, .int .i64 C] 94)
      go_region_law (refine step_note s _ rfl _ _ rfl (w0.heap.size + 1) vn notes rfl HA.out.nts ⟨W8.heap.size, 0, none⟩ ⟨⟨-1, J, E⟩, gap, 1⟩ 1 rfl (fun j u hj => by rw [add_plain]; exact (HNC.out j).trans (by rw [X0.out] at hj; simpa using hj)) (by have := HC.out; omega) HA.out.size ?_; intro g' cap w9 g1 g2 g3; have HU := Lib.hid (HA.out.pushN g1 g2 (g3.elim (fun e => .inl e.symm) (fun e => .inr (congrArg some e)))); have d5 := (HA.out.grownN g2).c5; have f5 := (HA.out.grownN g2).free 5; clear g1 g2 g3)
      all_goals go_end0
      all_goals exact ⟨rfl, _, by rw [HP1.out]; exact HU.out⟩
    | false =>
      have HP0 : Hid (P = if jn = true then 2 else 3) := by
        unfold Hid
        rw [hXX] at hX
        rw [hP]
        cases jn with
        | false => rw [if_neg (fun z => (beq_eq_false_iff_ne.1 hjn) z.1), if_neg (beq_eq_false_iff_ne.1 hjn)]; rfl
        | true =>
          rw [if_neg, if_pos (beq_iff_eq.1 hjn)]
          · rfl
          · rintro ⟨-, z1, z2⟩
            rw [beq_iff_eq.2 z1, decide_eq_true z2] at hX
            cases hX
      clear hX hP HX HP hXX
      cases jn with
      | true =>
        have HP1 : Hid (P = 2) := HP0.out
        clear HP0
        go_upto_region 8 with fail
        have HL6 : Hid (Lr s w0 (wc.setCell ⟨nb, 2, none⟩ (.int .i64 2)) J' L' C' vt vn toks notes (gap : Int) l) := HL5.out.set_far nb 2 _ HSB.out BT.out BN.out
        have HN6 : Hid (Nb (wc.setCell ⟨nb, 2, none⟩ (.int .i64 2)) nb (s.extract J E) (gap : Int) 2 L C) := HN5.out.set2 2
        generalize (wc.setCell ⟨nb, 2, none⟩ (.int .i64 2)) = W8 at HL6 HN6 ⊢
        clear HL5 HN5
        have a5 := HL6.out.blk.c5
        have b5 := fun o => (HL6.out.alloc o).blk.c5
        have n0 := HN6.out.c0
        have n1 := HN6.out.c1
        have n2 := HN6.out.c2
        have n3 := HN6.out.c3
        have n4 := HN6.out.c4
        have HA := Lib.hid ((HL6.out.alloc (.cells #[.string (s.extract J E), .int .i64 (gap : Int), .int .i64 2, .int .i64 L, .int .i64 C] 94)).drew 1)
        have HNC := Lib.hid (new_cell W8 #[.string (s.extract J E), .int .i64 (gap : Int), .int .i64 2, .int .i64 L, .int .i64 C] 94)
        go_region_law (refine step_note s _ rfl _ _ rfl (w0.heap.size + 1) vn notes rfl HA.out.nts ⟨W8.heap.size, 0, none⟩ ⟨⟨-1, J, E⟩, gap, 2⟩ 1 rfl (fun j u hj => by rw [add_plain]; exact (HNC.out j).trans (by rw [X0.out] at hj; simpa using hj)) (by have := HC.out; omega) HA.out.size ?_; intro g' cap w9 g1 g2 g3; have HU := Lib.hid (HA.out.pushN g1 g2 (g3.elim (fun e => .inl e.symm) (fun e => .inr (congrArg some e)))); have d5 := (HA.out.grownN g2).c5; have f5 := (HA.out.grownN g2).free 5; clear g1 g2 g3)
        all_goals go_end0
        all_goals exact ⟨rfl, _, by rw [HP1.out]; exact HU.out⟩
      | false =>
        have HP1 : Hid (P = 3) := HP0.out
        clear HP0 f2 n2
        go_upto_region 8 with fail
        have HL6 : Hid (Lr s w0 wc J' L' C' vt vn toks notes (gap : Int) l) := HL5.out
        have HN6 : Hid (Nb wc nb (s.extract J E) (gap : Int) 3 L C) := HN5.out
        generalize wc = W8 at HL6 HN6 ⊢
        have a5 := HL6.out.blk.c5
        have b5 := fun o => (HL6.out.alloc o).blk.c5
        have n0 := HN6.out.c0
        have n1 := HN6.out.c1
        have n2 := HN6.out.c2
        have n3 := HN6.out.c3
        have n4 := HN6.out.c4
        have HA := Lib.hid ((HL6.out.alloc (.cells #[.string (s.extract J E), .int .i64 (gap : Int), .int .i64 3, .int .i64 L, .int .i64 C] 94)).drew 1)
        have HNC := Lib.hid (new_cell W8 #[.string (s.extract J E), .int .i64 (gap : Int), .int .i64 3, .int .i64 L, .int .i64 C] 94)
        go_region_law (refine step_note s _ rfl _ _ rfl (w0.heap.size + 1) vn notes rfl HA.out.nts ⟨W8.heap.size, 0, none⟩ ⟨⟨-1, J, E⟩, gap, 3⟩ 1 rfl (fun j u hj => by rw [add_plain]; exact (HNC.out j).trans (by rw [X0.out] at hj; simpa using hj)) (by have := HC.out; omega) HA.out.size ?_; intro g' cap w9 g1 g2 g3; have HU := Lib.hid (HA.out.pushN g1 g2 (g3.elim (fun e => .inl e.symm) (fun e => .inr (congrArg some e)))); have d5 := (HA.out.grownN g2).c5; have f5 := (HA.out.grownN g2).free 5; clear g1 g2 g3)
        all_goals go_end0
        all_goals exact ⟨rfl, _, by rw [HP1.out]; exact HU.out⟩
end Go.Proofs.YtmgclgojmckfhaaGreatDoor.Lx
