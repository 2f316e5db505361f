/-
  The contract of the document's own Lex. Condition: the string has at most 2^43 bytes.
-/
import Derived.Test.YtkehchajgdepaaaGreatDoorZLexRef
import Derived.Test.YtkehchajgdepaaaGreatDoorZLexOwn
import Derived.Deep.DeepCutAuto
import Derived.Handy
import Derived.OneCell
import Derived.Deep.Onto
namespace Go.Proofs.YtkehchajgdepaaaGreatDoor.Lx
open Go.RowKit Gly
set_option linter.unusedSimpArgs false
set_option linter.unusedVariables false

/-! ### The fold, once more -/

theorem wait_notes (s : ByteArray) : ∀ l : List It, (accS s l).wait = true → (accS s l).notes ≠ [] := by
  intro l
  rcases List.eq_nil_or_concat l with rfl | ⟨r, t, h⟩
  · intro h
    exact absurd (show false = true from h) (by decide)
  · rw [List.concat_eq_append] at h
    subst h
    rw [accS_add]
    unfold stepA
    split
    · intro _
      unfold addNote
      simp
    · intro h
      unfold addTok at h
      rw [(settle_it _ _).2.2.2.2.1] at h
      cases h
theorem notes_count (s : ByteArray) (l : List It) : (accS s l).notes.length ≤ l.length := by
  have := congrArg List.length (told_all s l).its
  rw [List.length_map] at this
  rw [this]
  exact List.length_filter_le _ _
theorem toks_count (l : List It) : (toksL l).length ≤ l.length := List.length_filter_le _ _
theorem setLast_twice (x y : Int) : ∀ l : List Nt, setLast x (setLast y l) = setLast x l
  | [] => rfl
  | [m] => rfl
  | m :: k :: r => by
    have h := setLast_twice x y (k :: r)
    cases hk : setLast y (k :: r) with
    | nil =>
      have := congrArg List.length hk
      rw [setLast_len] at this
      simp at this
    | cons a b =>
      rw [setLast, hk, setLast, ← hk, h]
      rfl

/-! ### What the call holds -/

/-- The block of the result, still empty; the block of what has been found; its rows. -/
structure Rx (s : ByteArray) (w wr : World) (vt vn : Value) (toks : List It) (notes : List Nt) : Prop where
  res : wr.heap[w.heap.size]? = some (.cells #[.slice none 0 0, .slice none 0 0, .int .i64 0, .int .i64 0] 29 (0, 0))
  blk : wr.heap[w.heap.size + 1]? = some (.cells #[vt, vn, .int .i64 0, .int .i64 0] 29 (0, 0))
  tok : Toks s wr (w.heap.size + 2) vt toks
  nts : Notes s wr (w.heap.size + 2) vn notes
  sep : ∀ b, vt.ownBlock = some b → vn.ownBlock ≠ some b
  bel : Below w.heap.size w wr
/-- A call that makes blocks leaves it. -/
theorem Rx.below {s : ByteArray} {w wr wr' : World} {vt vn : Value} {toks : List It} {notes : List Nt} (h : Rx s w wr vt vn toks notes) {C : Nat} (hb : Below C wr wr') (hC : wr.heap.size ≤ C) : Rx s w wr' vt vn toks notes where
  res := (hb.block _ (Nat.lt_of_lt_of_le (lt_of_block h.res) hC)).trans h.res
  blk := (hb.block _ (Nat.lt_of_lt_of_le (lt_of_block h.blk) hC)).trans h.blk
  tok := h.tok.below hb hC
  nts := h.nts.below hb hC
  sep := h.sep
  bel := h.bel.trans (hb.mono (Nat.le_trans h.bel.size hC))
theorem Rx.drew {s : ByteArray} {w wr : World} {vt vn : Value} {toks : List It} {notes : List Nt} (h : Rx s w wr vt vn toks notes) (n : Nat) : Rx s w (wr.drewN n) vt vn toks notes := h.below (Plc.below_drewN (Below.refl wr.heap.size _) n) (Nat.le_refl _)

def newC : Obj := .cells #[.slice none 0 0, .slice none 0 0, .int .i64 0, .int .i64 0] 29
theorem Rx.new (s : ByteArray) (w : World) : Rx s w ((w.alloc newC).alloc newC) (.slice none 0 0) (.slice none 0 0) [] [] where
  res := (Below.heap_alloc _ _ _ (by simp)).trans (heap_alloc_new w _)
  blk := by
    have := heap_alloc_new (w.alloc newC) newC
    rw [World.size_alloc] at this
    exact this
  tok := Toks.nil _ _ _
  nts := Notes.nil _ _ _
  sep := fun b h => by simp [Value.ownBlock] at h
  bel := ((Below.refl _ _).alloc (Nat.le_refl _) _).alloc (by simp) _

theorem settle_no (A : Acc) (b : Bool) (h : A.wait = false) : settle A b = A := by
  unfold settle
  rw [h]
  rfl
theorem Rx.cell {s : ByteArray} {w wr : World} {vt vn : Value} {toks : List It} {notes : List Nt} (h : Rx s w wr vt vn toks notes) : wr.cell? ⟨w.heap.size + 1, 0, none⟩ = some vt ∧ wr.cell? ⟨w.heap.size + 1, 1, none⟩ = some vn ∧ wr.cell? ⟨w.heap.size + 1, 2, none⟩ = some (.int .i64 0) ∧ wr.cell? ⟨w.heap.size + 1, 3, none⟩ = some (.int .i64 0) := by
  refine ⟨?_, ?_, ?_, ?_⟩
  all_goals (rw [cell_of_row wr _ _ _ _ _ h.blk]; rfl)
/-- The last comment told where it stands. -/
theorem Rx.set {s : ByteArray} {w wr : World} {vt : Value} {toks : List It} {notes : List Nt} {g cap : Nat} (h : Rx s w wr vt (.slice (some ⟨g, 0, none⟩) notes.length cap) toks notes) (hn : 0 < notes.length) (hg : w.heap.size + 2 ≤ g) (x : Int) :
    Rx s w (wr.setCell ⟨g, (notes.length - 1) * 5 + 2, none⟩ (.int .i64 x)) vt (.slice (some ⟨g, 0, none⟩) notes.length cap) toks (setLast x notes) where
  res := setCell_other h.res (by dsimp only; omega)
  blk := setCell_other h.blk (by dsimp only; omega)
  tok := by
    have hs := h.sep
    have ht : vt.ownBlock ≠ some g := fun e => hs g e rfl
    exact ownsRow_setCell_other h.tok ht _
  nts := by
    have := Notes.set h.nts hn x
    exact this
  sep := h.sep
  bel := h.bel.setCell (by dsimp only; omega) _

/-- What a walk asks where the last comment is told, once and twice. -/
theorem Rx.last {s : ByteArray} {w wr W2 : World} {vt : Value} {toks : List It} {notes : List Nt} {g m cap : Nat} (h : Rx s w wr vt (.slice (some ⟨g, 0, none⟩) (m + 1) cap) toks notes) (hm : notes.length = m + 1) (hg : w.heap.size + 2 ≤ g)
    (x : Int) (hW : W2 = wr.setCell ⟨g, m * 5 + 2, none⟩ (.int .i64 x)) :
    Rx s w W2 vt (.slice (some ⟨g, 0, none⟩) (m + 1) cap) toks (setLast x notes) ∧ wr.cell? ⟨w.heap.size + 1, 1, none⟩ = some (.slice (some ⟨g, 0, none⟩) (m + 1) cap) ∧ wr.frozen? ⟨g, m * 5 + 2, none⟩ = false ∧ ∃ u, wr.cell? ⟨g, m * 5 + 2, none⟩ = some u := by
  have e : notes.length - 1 = m := by omega
  have hn := h.nts
  unfold Notes at hn
  rw [hm] at hn
  refine ⟨?_, h.cell.2.1, World.ownsRow.frozenAt hn (m * 5 + 2), ?_⟩
  · rw [← hm] at h ⊢
    have := h.set (by omega) hg x
    rw [e, ← hW] at this
    exact this
  · have := h.nts.cell m 2 _ (List.getElem?_eq_getElem (by omega)) (by omega)
    rw [this]
    exact ⟨_, rfl⟩

/-- What is known of a round. -/
structure Rnd (s : ByteArray) (p : Nat) (acc : List It) (J : Nat) (A : Acc) (L C : Int) : Prop where
  at_ : At s p acc
  j : skp s p = J
  a : accS s acc = A
  l : lineS s J = L
  c : colS s J = C

/-- A block of four cells, as the call's result is. -/
def Lxd (w : World) (g : Nat) (a b c d : Value) : Prop := w.heap[g]? = some (.cells #[a, b, c, d] 29 (0, 0))
theorem Lxd.cells {w : World} {g : Nat} {a b c d : Value} (h : Lxd w g a b c d) : w.cell? ⟨g, 0, none⟩ = some a ∧ w.cell? ⟨g, 1, none⟩ = some b ∧ w.cell? ⟨g, 2, none⟩ = some c ∧ w.cell? ⟨g, 3, none⟩ = some d := by
  refine ⟨?_, ?_, ?_, ?_⟩
  all_goals (rw [cell_of_row w _ _ _ _ _ h]; rfl)
theorem Lxd.free {w : World} {g : Nat} {a b c d : Value} (h : Lxd w g a b c d) (i : Nat) : w.frozen? ⟨g, i, none⟩ = false := by unfold Lxd at h; simp [World.frozen?, h]
/-- The result laid into its block. -/
theorem Rx.laid {s : ByteArray} {w wr : World} {vt vn : Value} {toks : List It} {notes : List Nt} (h : Rx s w wr vt vn toks notes) (a b c d : Value) :
    Lxd ((((wr.setCell ⟨w.heap.size, 0, none⟩ a).setCell ⟨w.heap.size, 1, none⟩ b).setCell ⟨w.heap.size, 2, none⟩ c).setCell ⟨w.heap.size, 3, none⟩ d) w.heap.size a b c d ∧
    Toks s ((((wr.setCell ⟨w.heap.size, 0, none⟩ a).setCell ⟨w.heap.size, 1, none⟩ b).setCell ⟨w.heap.size, 2, none⟩ c).setCell ⟨w.heap.size, 3, none⟩ d) w.heap.size vt toks ∧
    Notes s ((((wr.setCell ⟨w.heap.size, 0, none⟩ a).setCell ⟨w.heap.size, 1, none⟩ b).setCell ⟨w.heap.size, 2, none⟩ c).setCell ⟨w.heap.size, 3, none⟩ d) w.heap.size vn notes ∧
    Below w.heap.size w ((((wr.setCell ⟨w.heap.size, 0, none⟩ a).setCell ⟨w.heap.size, 1, none⟩ b).setCell ⟨w.heap.size, 2, none⟩ c).setCell ⟨w.heap.size, 3, none⟩ d) := by
  refine ⟨?_, ?_, ?_, ?_⟩
  · have h0 := h.res
    unfold Lxd
    simp [World.setCell, Array.getElem?_modify, h0]
  · exact World.ownsRow.mono (ownsRow_setCell_below (ownsRow_setCell_below (ownsRow_setCell_below (ownsRow_setCell_below h.tok (by dsimp only; omega) _) (by dsimp only; omega) _) (by dsimp only; omega) _) (by dsimp only; omega) _) (by omega)
  · exact World.ownsRow.mono (ownsRow_setCell_below (ownsRow_setCell_below (ownsRow_setCell_below (ownsRow_setCell_below h.nts (by dsimp only; omega) _) (by dsimp only; omega) _) (by dsimp only; omega) _) (by dsimp only; omega) _) (by omega)
  · exact (((h.bel.setCell (Nat.le_refl _) _).setCell (Nat.le_refl _) _).setCell (Nat.le_refl _) _).setCell (Nat.le_refl _) _
theorem own_slice {w : World} {B size n : Nat} {e : TypeId} {v : Value} {xs : List Value} (h : w.ownsRow B e size v n xs) : ∃ a k c, v = .slice a k c := by
  rcases h.2 with ⟨rfl, _⟩ | ⟨g, cap, cur, rfl, _⟩
  · exact ⟨_, _, _, rfl⟩
  · exact ⟨_, _, _, rfl⟩

/-- A comment more; a token more: the row's value is laid into its cell. -/
theorem Rx.pushN {s : ByteArray} {w W1 W2 : World} {vt vn v' : Value} {toks : List It} {notes : List Nt} {n : Nt} (h : Rx s w W1 vt vn toks notes) (hn : Notes s W2 (w.heap.size + 2) v' (notes ++ [n])) (hg : W1.grownBy W2 vn.ownBlock) (ha : v'.ownBlock = vn.ownBlock ∨ v'.ownBlock = some W1.heap.size) :
    Rx s w (W2.setCell ⟨w.heap.size + 1, 1, none⟩ v') vt v' toks (notes ++ [n]) := by
  have hlt := World.ownsRow.lt h.nts
  have hlt2 := World.ownsRow.lt h.tok
  have ne : ∀ k, k < w.heap.size + 2 → some k ≠ vn.ownBlock := fun k hk e => by
    have := (hlt k e.symm).1
    omega
  have hl1 := lt_of_block h.res
  have hl2 := lt_of_block h.blk
  have ht : Toks s W2 (w.heap.size + 2) vt toks := by
    refine h.tok.kept hg ?_
    rcases hv : vt.ownBlock with _ | b
    · exact .inl rfl
    · exact .inr (fun e => h.sep b hv e.symm)
  have hb : W2.heap[w.heap.size + 1]? = some (.cells #[vt, vn, .int .i64 0, .int .i64 0] 29 (0, 0)) := (hg.block _ hl2 (ne _ (by omega))).trans h.blk
  refine ⟨setCell_other ((hg.block _ hl1 (ne _ (by omega))).trans h.res) (by dsimp only; omega), ?_, ownsRow_setCell_below ht (by dsimp only; omega) _, ownsRow_setCell_below hn (by dsimp only; omega) _, ?_, ?_⟩
  · simp [World.setCell, Array.getElem?_modify, hb]
  · intro b hb e
    rcases ha with q | q
    · rw [q] at e
      exact h.sep b hb e
    · rw [q] at e
      injection e with e
      have := (hlt2 b hb).2
      omega
  · refine (Below.grown h.bel hg h.bel.size (fun k hk => ?_)).setCell (by dsimp only; omega) _
    have := (hlt k hk).1
    omega
theorem Rx.pushT {s : ByteArray} {w W1 W2 : World} {vt vn v' : Value} {toks : List It} {notes : List Nt} {t : It} (h : Rx s w W1 vt vn toks notes) (hn : Toks s W2 (w.heap.size + 2) v' (toks ++ [t])) (hg : W1.grownBy W2 vt.ownBlock) (ha : v'.ownBlock = vt.ownBlock ∨ v'.ownBlock = some W1.heap.size) :
    Rx s w (W2.setCell ⟨w.heap.size + 1, 0, none⟩ v') v' vn (toks ++ [t]) notes := by
  have hlt := World.ownsRow.lt h.tok
  have hlt2 := World.ownsRow.lt h.nts
  have ne : ∀ k, k < w.heap.size + 2 → some k ≠ vt.ownBlock := fun k hk e => by
    have := (hlt k e.symm).1
    omega
  have hl1 := lt_of_block h.res
  have hl2 := lt_of_block h.blk
  have ht : Notes s W2 (w.heap.size + 2) vn notes := by
    refine h.nts.kept hg ?_
    rcases hv : vn.ownBlock with _ | b
    · exact .inl rfl
    · exact .inr (fun e => h.sep b e.symm hv)
  have hb : W2.heap[w.heap.size + 1]? = some (.cells #[vt, vn, .int .i64 0, .int .i64 0] 29 (0, 0)) := (hg.block _ hl2 (ne _ (by omega))).trans h.blk
  refine ⟨setCell_other ((hg.block _ hl1 (ne _ (by omega))).trans h.res) (by dsimp only; omega), ?_, ownsRow_setCell_below hn (by dsimp only; omega) _, ownsRow_setCell_below ht (by dsimp only; omega) _, ?_, ?_⟩
  · simp [World.setCell, Array.getElem?_modify, hb]
  · intro b hb e
    rcases ha with q | q
    · rw [q] at hb
      exact h.sep b hb e
    · rw [q] at hb
      injection hb with hb
      have := (hlt2 b e).2
      omega
  · refine (Below.grown h.bel hg h.bel.size (fun k hk => ?_)).setCell (by dsimp only; omega) _
    have := (hlt k hk).1
    omega

theorem Rx.grownN {s : ByteArray} {w W1 W2 : World} {vt vn : Value} {toks : List It} {notes : List Nt} (h : Rx s w W1 vt vn toks notes) (hg : W1.grownBy W2 vn.ownBlock) : Lxd W2 (w.heap.size + 1) vt vn (.int .i64 0) (.int .i64 0) := by
  have hlt := World.ownsRow.lt h.nts
  refine (hg.block _ (lt_of_block h.blk) (fun e => ?_)).trans h.blk
  have := (hlt _ e.symm).1
  omega
theorem Rx.grownT {s : ByteArray} {w W1 W2 : World} {vt vn : Value} {toks : List It} {notes : List Nt} (h : Rx s w W1 vt vn toks notes) (hg : W1.grownBy W2 vt.ownBlock) : Lxd W2 (w.heap.size + 1) vt vn (.int .i64 0) (.int .i64 0) := by
  have hlt := World.ownsRow.lt h.tok
  refine (hg.block _ (lt_of_block h.blk) (fun e => ?_)).trans h.blk
  have := (hlt _ e.symm).1
  omega
/-- The cells of a new block. -/
theorem new_cells (w : World) (cs : Array Value) (t : TypeId) (k : Nat) : (w.alloc (.cells cs t)).cell? ⟨w.heap.size, k, none⟩ = cs[k]? := by
  rw [cell_of_row _ _ _ _ _ _ (heap_alloc_new w (.cells cs t))]

def LexOut (s : ByteArray) (w : World) (e : Ending) (w' : World) : Prop :=
  ∃ vt vn, e = .returned (.agg #[vt, vn, .int .i64 ((posS s : Nat) : Int), .int .i64 (errS s)]) ∧ Toks s w' w.heap.size vt (toksL (itemsS s)) ∧ Notes s w' w.heap.size vn (if errS s = 0 then notesL s (itemsS s) else []) ∧ Below w.heap.size w w' ∧ (∀ b, vt.ownBlock = some b → vn.ownBlock ≠ some b)

set_option maxRecDepth 1000000 in
set_option maxHeartbeats 8000000 in
theorem reflex_any (s : ByteArray) (hs : s.size ≤ 17592186044415) (w : World) :
    Calls Tryz.prog 10 #[.string s] w (LexOut s w) := by
  have C0 := Lib.hid (fun W => refrunes_any s (by omega) W)
  by_cases h0 : runesE s = 0
  · have e0 : Hid (∀ W, Calls Tryz.prog 20 #[.string s] W fun e w' => e = .returned (.tuple #[.int .i64 ((runesN s : Nat) : Int), .int .i64 0]) ∧ W = w') := fun W => by
      have := C0.out W
      rw [h0] at this
      exact this
    have HSM := Lib.hid (runes_ok s h0).2
    have HE : Hid (errS s = (lexS s).2.1 ∧ posS s = (lexS s).2.2) := by
      unfold Hid errS posS
      rw [if_neg (by omega), if_neg (by omega)]
      exact ⟨rfl, rfl⟩
    clear C0 h0
    generalize runesN s = rn0 at e0
    go_enter Tryz.func10, Tryz.ntmps10
    go_wp2_with fail
    refine (e0.out _).mono ?_
    rintro e w1 ⟨rfl, rfl⟩
    go_wp2_with fail
    go_loopw [6, 7, 8, 9, 10] (fun g i en jo wa wr => ∃ (p : Nat) (acc : List It) (vt vn : Value), At s p acc ∧ g = .int .i64 (((accS s acc).gap : Nat) : Int) ∧ i = .int .i64 (p : Int) ∧ en = .int .i64 (accS s acc).ends ∧ jo = .bool (accS s acc).joins ∧ wa = .bool (accS s acc).wait ∧
        Rx s w wr vt vn (toksL acc) (accS s acc).notes) (fun _ i _ _ _ _ => s.size - (intOf i).toNat)
    case atStart => exact ⟨0, [], _, _, .start, rfl, rfl, rfl, rfl, rfl, Rx.new s w⟩
    case round =>
      obtain ⟨p, acc, vt, vn, hat, rfl, rfl, rfl, rfl, rfl, hrx⟩ := hrel
      have hp0 := hat.le
      have c1 := fun W => refblanks_any s p (by omega) hp0 W
      have hJ := skp_le s p hp0
      have hpJ := skp_ge s p
      have hcnt := hat.count
      have hnc := notes_count s acc
      have htc := toks_count acc
      have hline : Hid (Plc.ofI s ((skp s p : Nat) : Int) = (lineS s (skp s p), colS s (skp s p), 0)) := by
        unfold Hid Plc.ofI
        rw [if_neg (by omega), Int.toNat_natCast]
        rfl
      have c2 := fun W => Plc.refOf_any s ((skp s p : Nat) : Int) (by omega) W
      rw [hline.out] at c2
      dsimp only at c2
      clear hline
      generalize hA : accS s acc = A at *
      generalize hJJ : skp s p = J at *
      generalize hL : lineS s J = L at *
      generalize hC : colS s J = C at *
      have C1 := Lib.hid c1
      have C2 := Lib.hid c2
      have HRX := Lib.hid hrx
      have HR : Rnd s p acc J A L C := ⟨hat, hJJ, hA, hL, hC⟩
      clear c1 c2 hrx hat hA hL hC hJJ
      go_upto_if 43 with (first | (go_at_call 21; refine (C1.out _).mono ?_; rintro e w1 ⟨rfl, rfl⟩) | (go_at_call 22; refine (C2.out _).mono ?_; rintro e w1 ⟨rfl, rfl⟩))
      go_cut [6, 7, 8, 9, 10, 11, 12] (fun g i en jo wa ln cl wx => g = .int .i64 (((settle A (decide (J < s.size) && (L == A.ends))).gap : Nat) : Int) ∧ i = .int .i64 (J : Int) ∧ en = .int .i64 (settle A (decide (J < s.size) && (L == A.ends))).ends ∧ jo = .bool (settle A (decide (J < s.size) && (L == A.ends))).joins ∧ wa = .bool false ∧ ln = .int .i64 L ∧ cl = .int .i64 C ∧
        Rx s w wx vt vn (toksL acc) (settle A (decide (J < s.size) && (L == A.ends))).notes)
      case first =>
        obtain ⟨ag, ae, aj, aw, an⟩ := A
        dsimp only at *
        cases aw with
        | false =>
          have HS := Lib.hid (settle_no ⟨ag, ae, aj, false, an⟩ (decide (J < s.size) && (L == ae)) rfl)
          go_wp2_with fail
          go_meet
          case rel => rw [HS.out]; exact ⟨rfl, rfl, rfl, rfl, rfl, rfl, rfl, HRX.out⟩
        | true =>
          have hne : an ≠ [] := by
            have := wait_notes s acc
            rw [HR.a] at this
            exact this rfl
          have hpos : 0 < an.length := List.length_pos_iff.2 hne
          obtain ⟨g, cap, hv, hg1, hg2⟩ := Notes.form HRX.out.nts hpos
          subst hv
          obtain ⟨m, hm⟩ : ∃ m, an.length = m + 1 := ⟨an.length - 1, by omega⟩
          have hmb : m ≤ 17592186044415 := by omega
          have hw1 : wrap64 (m : Int) = (m : Int) := IntWalk.wrap64_in _ ⟨by omega, by omega⟩
          have hv := HRX.out
          rw [hm] at hv
          obtain ⟨W2, hW2⟩ : ∃ W2, W2 = wr.setCell ⟨g, m * 5 + 2, none⟩ (.int .i64 2) := ⟨_, rfl⟩
          obtain ⟨W3, hW3⟩ : ∃ W3, W3 = W2.setCell ⟨g, m * 5 + 2, none⟩ (.int .i64 1) := ⟨_, rfl⟩
          obtain ⟨k2, f1, f2, u5, f5⟩ := hv.last hm hg1 2 hW2
          obtain ⟨k3, f4, f3, u6, f6⟩ := k2.last (by rw [setLast_len]; exact hm) hg1 1 hW3
          rw [setLast_twice] at k3
          have K2 := Lib.hid k2
          have K3 := Lib.hid k3
          have HW2 := Lib.hid hW2
          have HW3 := Lib.hid hW3
          clear k2 k3 hv hW2 hW3
          have HS : Hid (∀ b, settle ⟨ag, ae, aj, true, an⟩ b = ⟨ag, ae, b, false, setLast (if b = true then 1 else 2) an⟩) := fun b => if_pos rfl
          have HM5 := Lib.hid hm
          clear hm
          clear hmb
          go_upto_region 13 with fail
          rw [hw1]
          clear hw1
          go_upto_region 14 with fail
          rw [← HW2.out]
          by_cases hlt : J < s.size
          · have t1 : decide (J < s.size) = true := decide_eq_true hlt
            by_cases hl : L = ae
            · have t2 : (L == ae) = true := by rw [beq_iff_eq]; exact hl
              have HB : Hid ((decide (J < s.size) && (L == ae)) = true) := by unfold Hid; rw [t1, t2]; rfl
              clear hl
              go_wp2_with fail
              rw [← HW3.out]
              go_meet
              case rel =>
                rw [HB.out, HS.out]
                exact ⟨rfl, rfl, rfl, rfl, rfl, rfl, rfl, by rw [HM5.out]; exact K3.out⟩
            · have t2 : (L == ae) = false := by rw [beq_eq_false_iff_ne]; exact hl
              have HB : Hid ((decide (J < s.size) && (L == ae)) = false) := by unfold Hid; rw [t1, t2]; rfl
              clear hl
              go_wp2_with fail
              go_meet
              case rel =>
                rw [HB.out, HS.out]
                exact ⟨rfl, rfl, rfl, rfl, rfl, rfl, rfl, by rw [HM5.out]; exact K2.out⟩
          · have t1 : decide (J < s.size) = false := decide_eq_false hlt
            have HB : Hid ((decide (J < s.size) && (L == ae)) = false) := by unfold Hid; rw [t1]; rfl
            go_wp2_with fail
            go_meet
            case rel =>
              rw [HB.out, HS.out]
              exact ⟨rfl, rfl, rfl, rfl, rfl, rfl, rfl, by rw [HM5.out]; exact K2.out⟩
      case rest =>
        obtain ⟨rfl, rfl, rfl, rfl, rfl, rfl, rfl, hrx2⟩ := hcut
        have hb5 := (settle_it A (decide (J < s.size) && (L == A.ends)))
        have hbl : (settle A (decide (J < s.size) && (L == A.ends))).notes.length = A.notes.length := by
          have := congrArg List.length hb5.1
          rw [List.length_map, List.length_map] at this
          exact this
        have HB0 : Hid (∃ b, b = (decide (J < s.size) && (L == A.ends)) ∧ settle A b = settle A (decide (J < s.size) && (L == A.ends))) := ⟨_, rfl, rfl⟩
        clear hb5
        generalize hB : settle A (decide (J < s.size) && (L == A.ends)) = B at *
        have HB := Lib.hid hB
        have HRX2 := Lib.hid hrx2
        clear hB hrx2 HRX HB0
        obtain ⟨bg, be, bj, bw, bn⟩ := B
        dsimp only at *
        rcases nxt_cases s J with ⟨h0, hn⟩ | ⟨h0, h1, h2, h3, hn⟩ | ⟨h0, h1, h2, hn⟩ | ⟨h0, h1, h2, hn⟩ | ⟨h0, h1, h2, hn⟩
        · obtain rfl : J = s.size := by omega
          have HN := Lib.hid hn
          clear hn h0
          have g0 := HRX2.out.cell
          obtain ⟨g1, g2, g3, g4⟩ := g0
          have r0 : Lxd wc w.heap.size _ _ _ _ := HRX2.out.res
          obtain ⟨r1, r2, r3, r4⟩ := r0.cells
          have y0 := r0.free 0
          have y1 := r0.free 1
          have y2 := r0.free 2
          have y3 := r0.free 3
          obtain ⟨ta, tn, tc, rfl⟩ := own_slice HRX2.out.tok
          obtain ⟨na, nn, nc, rfl⟩ := own_slice HRX2.out.nts
          clear r0
          go_wp2_with fail
          obtain ⟨l1, l2, l3, l4⟩ := HRX2.out.laid (.slice ta tn tc) (.slice na nn nc) (.int .i64 0) (.int .i64 0)
          have L1 := Lib.hid l1
          have L2 := Lib.hid l2
          have L3 := Lib.hid l3
          have L4 := Lib.hid l4
          clear l1 l2 l3 l4
          generalize (((wc.setCell ⟨w.heap.size, 0, none⟩ (.slice ta tn tc)).setCell ⟨w.heap.size, 1, none⟩ (.slice na nn nc)).setCell ⟨w.heap.size, 2, none⟩ (.int .i64 0)).setCell ⟨w.heap.size, 3, none⟩ (.int .i64 0) = W4 at *
          obtain ⟨z0, z1, z2, z3⟩ := L1.out.cells
          refine bodyPost_ret (by simp [results, Tryz.results10, go_sem, z0, z1, z2, z3]; try rfl) rfl ?_
          have hfin : lexS s = (acc, 0, 0) := HR.at_.fin (by rw [HR.j]; exact HN.out)
          have hx : errS s = 0 := by rw [HE.out.1, hfin]
          have hp : posS s = 0 := by rw [HE.out.2, hfin]
          have hi : itemsS s = acc := by unfold itemsS; rw [if_pos hx, hfin]
          have hn : bn = notesL s acc := by
            have := HB.out
            unfold notesL
            rw [decide_eq_false (by omega), Bool.false_and] at this
            rw [HR.a, this]
          exact ⟨_, _, by rw [hx, hp]; rfl, by rw [hi]; exact L2.out, by rw [if_pos hx, hi, ← hn]; exact L3.out, L4.out, HRX2.out.sep⟩
        · have hJs : ((J : Int) == (s.size : Int)) = false := by rw [beq_eq_false_iff_ne]; omega
          have c3 := fun W => Not.refScan_any s (J : Int) (by omega) W
          rw [Not.scanI_in s J h0 0 60 (Prod.ext h3 h2)] at c3
          have C3 : Hid (∀ W, Calls Tryz.prog 23 #[.string s, .int .i64 (J : Int)] W fun e w' => e = .returned (.tuple #[.int .i64 0, .int .i64 60]) ∧ W = w') := c3
          have HN := Lib.hid hn
          clear hn h1 h2 h3 c3
          generalize hwd : wc = wd at *
          have r0 : Lxd wd w.heap.size _ _ _ _ := HRX2.out.res
          obtain ⟨r1, r2, r3, r4⟩ := r0.cells
          have y0 := r0.free 0
          have y1 := r0.free 1
          have y2 := r0.free 2
          have y3 := r0.free 3
          clear r0
          go_wp2_with fail
          refine (C3.out _).mono ?_
          rintro e w3 ⟨rfl, rfl⟩
          go_wp2_with fail
          obtain ⟨l1, l2, l3, l4⟩ := HRX2.out.laid (.slice none 0 0) (.slice none 0 0) (.int .i64 (J : Int)) (.int .i64 60)
          have L1 := Lib.hid l1
          have L4 := Lib.hid l4
          clear l1 l2 l3 l4
          generalize (((wd.setCell ⟨w.heap.size, 0, none⟩ (.slice none 0 0)).setCell ⟨w.heap.size, 1, none⟩ (.slice none 0 0)).setCell ⟨w.heap.size, 2, none⟩ (.int .i64 (J : Int))).setCell ⟨w.heap.size, 3, none⟩ (.int .i64 60) = W4 at *
          obtain ⟨z0, z1, z2, z3⟩ := L1.out.cells
          refine bodyPost_ret (by simp [results, Tryz.results10, go_sem, z0, z1, z2, z3]; try rfl) rfl ?_
          have hbad := HR.at_.bad (by rw [HR.j]; exact HN.out)
          have hx : errS s = 60 := by rw [HE.out.1, hbad]
          have hp : posS s = J := by rw [HE.out.2, hbad]
          have hne : ¬ errS s = 0 := by rw [hx]; decide
          have hi : itemsS s = [] := by unfold itemsS; rw [if_neg hne]
          exact ⟨_, _, by rw [hx, hp], by rw [hi]; exact Toks.nil _ _ _, by rw [if_neg hne]; exact Notes.nil _ _ _, L4.out, fun b h => by simp [Value.ownBlock] at h⟩
        · have hJs : ((J : Int) == (s.size : Int)) = false := by rw [beq_eq_false_iff_ne]; omega
          have hit := nxt_item hn
          have c3 := fun W => Not.refScan_any s (J : Int) (by omega) W
          rw [Not.scanI_in s J h0 (Not.scanN (rest s J)).1 0 (Prod.ext rfl h1), if_neg h2] at c3
          obtain ⟨E, hE⟩ : ∃ E, J + (Not.scanN (rest s J)).1 = E := ⟨_, rfl⟩
          rw [hE] at c3 hn hit
          have hEs : E ≤ s.size := hit.2.2.2.1
          have hJE : J < E := hit.2.2.1
          have C3 : Hid (∀ W, Calls Tryz.prog 23 #[.string s, .int .i64 (J : Int)] W fun e w' => e = .returned (.tuple #[.int .i64 (E : Int), .int .i64 0]) ∧ W = w') := c3
          have c5 := fun W => Plc.refOf_any s (E : Int) (by omega) W
          have hof : Plc.ofI s (E : Int) = (lineS s E, colS s E, 0) := by
            unfold Plc.ofI
            rw [if_neg (by omega), Int.toNat_natCast]
            rfl
          rw [hof] at c5
          dsimp only at c5
          obtain ⟨TL, hTL⟩ : ∃ TL, lineS s E = TL := ⟨_, rfl⟩
          rw [hTL] at c5
          have C5 := Lib.hid c5
          have HTL := Lib.hid hTL
          have HN := Lib.hid hn
          have hE0 : decide (0 < E) = true := decide_eq_true (by omega)
          have hJE2 : (J : Int) ≤ (E : Int) := by omega
          have hEs2 : (E : Int) ≤ (s.size : Int) := by omega
          have hJE3 : J ≤ E := by omega
          clear hn h1 h2 c3 c5 hof hTL hit hE
          obtain ⟨W1, hW1⟩ : ∃ W1, W1 = wc.alloc (.cells #[.string (s.extract J E), .int .i64 (bg : Int), .int .i64 3, .int .i64 L, .int .i64 C] 39) := ⟨_, rfl⟩
          have hrx3 : Rx s w W1 _ _ _ _ := HRX2.out.below (wr' := W1) (C := wc.heap.size) (by rw [hW1]; exact (Below.refl _ _).alloc (Nat.le_refl _) _) (Nat.le_refl _)
          have HRX3 := Lib.hid hrx3
          have hsz : W1.heap.size = wc.heap.size + 1 := by rw [hW1, World.size_alloc]
          have hcl : ∀ k, W1.cell? ⟨wc.heap.size, k, none⟩ = (#[.string (s.extract J E), .int .i64 (bg : Int), .int .i64 3, .int .i64 L, .int .i64 C] : Array Value)[k]? := fun k => by rw [hW1]; exact new_cells _ _ _ _
          have n0 := hcl 0
          have n1 := hcl 1
          have n2 := hcl 2
          have n3 := hcl 3
          have n4 := hcl 4
          simp only [List.getElem?_toArray, List.getElem?_cons_zero, List.getElem?_cons_succ] at n0 n1 n2 n3 n4
          have HW1 := Lib.hid hW1
          have HSZ := Lib.hid hsz
          clear hrx3 hsz hcl hW1
          obtain ⟨X, hX⟩ : ∃ X, X = (bj && (be == L) && (TL == L)) := ⟨_, rfl⟩
          have HX := Lib.hid hX
          clear hX
          go_upto_region 27 with (first | (go_at_call 23; refine (C3.out _).mono ?_; rintro e w3 ⟨rfl, rfl⟩) | (go_at_call 22; refine (C5.out _).mono ?_; rintro e w3 ⟨rfl, rfl⟩))
          rw [← HW1.out]
          have HNC : Hid (noteC s ⟨⟨-1, J, E⟩, bg, 3⟩ = [.string (s.extract J E), .int .i64 (bg : Int), .int .i64 3, .int .i64 L, .int .i64 C]) := by
            unfold Hid noteC txt
            rw [HR.l, HR.c]
          go_cut [110] (fun b wx => b = .bool X ∧ wx = W1)
          case first =>
            have hX := HX.out
            cases bj with
            | false =>
              have HX0 : Hid (X = false) := hX
              clear hX HX
              go_wp2_with fail
              go_meet
              case rel => rw [HX0.out]; exact ⟨rfl, rfl⟩
            | true =>
              by_cases q1 : be = L
              · have t1 : (be == L) = true := by rw [beq_iff_eq]; exact q1
                by_cases q2 : TL = L
                · have t2 : (TL == L) = true := by rw [beq_iff_eq]; exact q2
                  have HX0 : Hid (X = true) := by unfold Hid; rw [hX, t1, t2]; rfl
                  clear hX HX q1 q2
                  go_wp2_with fail
                  go_meet
                  case rel => rw [HX0.out]; exact ⟨rfl, rfl⟩
                · have t2 : (TL == L) = false := by rw [beq_eq_false_iff_ne]; exact q2
                  have HX0 : Hid (X = false) := by unfold Hid; rw [hX, t1, t2]; rfl
                  clear hX HX q1 q2
                  go_wp2_with fail
                  go_meet
                  case rel => rw [HX0.out]; exact ⟨rfl, rfl⟩
              · have t1 : (be == L) = false := by rw [beq_eq_false_iff_ne]; exact q1
                have HX0 : Hid (X = false) := by unfold Hid; rw [hX, t1]; rfl
                clear hX HX q1
                go_wp2_with fail
                go_meet
                case rel => rw [HX0.out]; exact ⟨rfl, rfl⟩
          case rest =>
            obtain ⟨rfl, hwx⟩ := hcut
            have HWX := Lib.hid hwx
            clear hwx
            rw [HWX.out]
            have a2 := HRX3.out.cell.2.1
            have hrxa := HRX3.out.below (wr' := W1.alloc (.cells #[.string (s.extract J E), .int .i64 (bg : Int), .int .i64 3, .int .i64 L, .int .i64 C] 39)) (C := W1.heap.size) ((Below.refl _ _).alloc (Nat.le_refl _) _) (Nat.le_refl _)
            have HRXA := Lib.hid hrxa
            clear hrxa
            have hgap : toksL (acc ++ [⟨-1, J, E⟩]) = toksL acc := by
              rw [toksL_add]
              rfl
            have hstep : accS s (acc ++ [⟨-1, J, E⟩]) = ⟨bg, TL, X, X, bn ++ [⟨⟨-1, J, E⟩, bg, 3⟩]⟩ := by
              have hb := HB.out
              rw [decide_eq_true h0, Bool.true_and] at hb
              rw [accS_add, HR.a]
              unfold stepA
              rw [if_pos (show isNote ⟨-1, J, E⟩ = true from rfl)]
              show addNote s (settle A (lineS s J == A.ends)) ⟨-1, J, E⟩ = _
              rw [HR.l, hb]
              unfold addNote
              show (⟨bg, lineS s E, bj && (be == lineS s J) && (lineS s E == lineS s J), bj && (be == lineS s J) && (lineS s E == lineS s J), bn ++ [⟨⟨-1, J, E⟩, bg, 3⟩]⟩ : Acc) = _
              rw [HTL.out, HR.l, ← HX.out]
            have hat2 : At s E (acc ++ [⟨-1, J, E⟩]) := HR.at_.more (t := ⟨-1, J, E⟩) (by rw [HR.j]; exact HN.out)
            have HGAP := Lib.hid hgap
            have HSTEP := Lib.hid hstep
            clear hgap hstep
            cases hXX : X with
            | false =>
              have HXX := Lib.hid hXX
              clear hXX
              go_wp2_with (first | (at_builtin; refine append_note s _ rfl _ _ rfl (w.heap.size + 2) _ _ rfl HRXA.out.nts ⟨W1.heap.size, 0, none⟩ ⟨⟨-1, J, E⟩, bg, 3⟩ 1 rfl ?c1 ?c2 ?c3 ?_))
              case c1 =>
                intro j u hj
                rw [HNC.out] at hj
                rw [add_plain, new_cells]
                simpa using hj
              case c2 =>
                have := HSM.out
                omega
              case c3 =>
                have := HRXA.out.bel.size
                have := lt_of_block HRXA.out.blk
                omega
              intro v' w3 g1 g2 g3
              obtain ⟨va, vk, vc, rfl⟩ := own_slice g1
              have hl := HRXA.out.grownN g2
              have b2 := hl.cells.2.1
              have b3 := hl.free 1
              have HP := Lib.hid (HRXA.out.pushN g1 g2 (by rw [World.size_alloc]; exact g3))
              clear g1 g2 g3 hl
              go_wp2_with fail
              go_roundw
              case rel =>
                refine ⟨E, acc ++ [⟨-1, J, E⟩], vt, .slice va vk vc, hat2, ?_, rfl, ?_, ?_, ?_, ?_⟩
                · rw [HSTEP.out]
                · rw [HSTEP.out]
                · rw [HSTEP.out, HXX.out]
                · rw [HSTEP.out, HXX.out]
                · rw [HSTEP.out, HGAP.out]
                  exact HP.out
              case measure => simp [intOf]; omega
            | true =>
              have HXX := Lib.hid hXX
              clear hXX
              go_wp2_with (first | (at_builtin; refine append_note s _ rfl _ _ rfl (w.heap.size + 2) _ _ rfl HRXA.out.nts ⟨W1.heap.size, 0, none⟩ ⟨⟨-1, J, E⟩, bg, 3⟩ 1 rfl ?c1 ?c2 ?c3 ?_))
              case c1 =>
                intro j u hj
                rw [HNC.out] at hj
                rw [add_plain, new_cells]
                simpa using hj
              case c2 =>
                have := HSM.out
                omega
              case c3 =>
                have := HRXA.out.bel.size
                have := lt_of_block HRXA.out.blk
                omega
              intro v' w3 g1 g2 g3
              obtain ⟨va, vk, vc, rfl⟩ := own_slice g1
              have hl := HRXA.out.grownN g2
              have b2 := hl.cells.2.1
              have b3 := hl.free 1
              have HP := Lib.hid (HRXA.out.pushN g1 g2 (by rw [World.size_alloc]; exact g3))
              clear g1 g2 g3 hl
              go_wp2_with fail
              go_roundw
              case rel =>
                refine ⟨E, acc ++ [⟨-1, J, E⟩], vt, .slice va vk vc, hat2, ?_, rfl, ?_, ?_, ?_, ?_⟩
                · rw [HSTEP.out]
                · rw [HSTEP.out]
                · have h := HX.out
                  rw [HXX.out] at h
                  have hj : bj = true := by cases bj with | true => rfl | false => simp at h
                  rw [HSTEP.out, HXX.out, hj]
                · rw [HSTEP.out, HXX.out]
                · rw [HSTEP.out, HGAP.out]
                  exact HP.out
              case measure => simp [intOf]; omega
        · have hJs : ((J : Int) == (s.size : Int)) = false := by rw [beq_eq_false_iff_ne]; omega
          have c3 := fun W => Not.refScan_any s (J : Int) (by omega) W
          rw [Not.scanI_in s J h0 0 0 h1] at c3
          have C3 : Hid (∀ W, Calls Tryz.prog 23 #[.string s, .int .i64 (J : Int)] W fun e w' => e = .returned (.tuple #[.int .i64 0, .int .i64 0]) ∧ W = w') := c3
          have c4 := fun W => reflexeme_any s J hs h0 W
          have hlx : lexI s J = ((lexL (rest s J)).1, J + (lexL (rest s J)).2.1, (lexL (rest s J)).2.2) := rfl
          rw [hlx] at c4
          dsimp only at c4
          generalize (lexL (rest s J)).1 = k1 at *
          generalize J + (lexL (rest s J)).2.1 = k2 at *
          generalize (lexL (rest s J)).2.2 = k3 at *
          have C4 := Lib.hid c4
          have hk3 : (k3 != 0) = true := by rw [bne_iff_ne]; exact h2
          have HK3 := Lib.hid h2
          have HN := Lib.hid hn
          clear hn h1 h2 c3 c4 hlx
          go_wp2_with fail
          refine (C3.out _).mono ?_
          rintro e w3 ⟨rfl, rfl⟩
          go_wp2_with fail
          refine (C4.out _).mono ?_
          rintro e wd ⟨rfl, hb4⟩
          have HRX3 := Lib.hid (HRX2.out.below hb4 (Nat.le_refl _))
          clear hb4
          have r0 : Lxd wd w.heap.size _ _ _ _ := HRX3.out.res
          obtain ⟨r1, r2, r3, r4⟩ := r0.cells
          have y0 := r0.free 0
          have y1 := r0.free 1
          have y2 := r0.free 2
          have y3 := r0.free 3
          clear r0
          go_wp2_with fail
          obtain ⟨l1, l2, l3, l4⟩ := HRX3.out.laid (.slice none 0 0) (.slice none 0 0) (.int .i64 (k2 : Int)) (.int .i64 k3)
          have L1 := Lib.hid l1
          have L4 := Lib.hid l4
          clear l1 l2 l3 l4
          generalize (((wd.setCell ⟨w.heap.size, 0, none⟩ (.slice none 0 0)).setCell ⟨w.heap.size, 1, none⟩ (.slice none 0 0)).setCell ⟨w.heap.size, 2, none⟩ (.int .i64 (k2 : Int))).setCell ⟨w.heap.size, 3, none⟩ (.int .i64 k3) = W4 at *
          obtain ⟨z0, z1, z2, z3⟩ := L1.out.cells
          refine bodyPost_ret (by simp [results, Tryz.results10, go_sem, z0, z1, z2, z3]; try rfl) rfl ?_
          have hbad := HR.at_.bad (by rw [HR.j]; exact HN.out)
          have hx : errS s = k3 := by rw [HE.out.1, hbad]
          have hp : posS s = k2 := by rw [HE.out.2, hbad]
          have hne : ¬ errS s = 0 := by rw [hx]; exact HK3.out
          have hi : itemsS s = [] := by unfold itemsS; rw [if_neg hne]
          exact ⟨_, _, by rw [hx, hp], by rw [hi]; exact Toks.nil _ _ _, by rw [if_neg hne]; exact Notes.nil _ _ _, L4.out, fun b h => by simp [Value.ownBlock] at h⟩
        · have hJs : ((J : Int) == (s.size : Int)) = false := by rw [beq_eq_false_iff_ne]; omega
          have hit := nxt_item hn
          have c3 := fun W => Not.refScan_any s (J : Int) (by omega) W
          rw [Not.scanI_in s J h0 0 0 h1] at c3
          have C3 : Hid (∀ W, Calls Tryz.prog 23 #[.string s, .int .i64 (J : Int)] W fun e w' => e = .returned (.tuple #[.int .i64 0, .int .i64 0]) ∧ W = w') := c3
          have c4 := fun W => reflexeme_any s J hs h0 W
          have hlx : lexI s J = ((lexL (rest s J)).1, J + (lexL (rest s J)).2.1, (lexL (rest s J)).2.2) := rfl
          rw [hlx, h2] at c4
          dsimp only at c4
          obtain ⟨E, hE⟩ : ∃ E, J + (lexL (rest s J)).2.1 = E := ⟨_, rfl⟩
          obtain ⟨k, hk⟩ : ∃ k, (lexL (rest s J)).1 = k := ⟨_, rfl⟩
          rw [hE, hk] at c4 hn hit
          have hEs : E ≤ s.size := hit.2.2.2.1
          have hJE : J < E := hit.2.2.1
          have hk1 : 1 ≤ k := by
            rcases hit.2.2.2.2.2 with q | q
            · have := q.2.1
              rw [h1] at this
              exact absurd rfl this
            · exact q.1
          have C4 := Lib.hid c4
          have c5 := fun W => Plc.refOf_any s (E : Int) (by omega) W
          have hof : Plc.ofI s (E : Int) = (lineS s E, colS s E, 0) := by
            unfold Plc.ofI
            rw [if_neg (by omega), Int.toNat_natCast]
            rfl
          rw [hof] at c5
          dsimp only at c5
          obtain ⟨TL, hTL⟩ : ∃ TL, lineS s E = TL := ⟨_, rfl⟩
          rw [hTL] at c5
          have C5 := Lib.hid c5
          have HTL := Lib.hid hTL
          have HN := Lib.hid hn
          have HK1 := Lib.hid hk1
          have hJE2 : (J : Int) ≤ (E : Int) := by omega
          have hEs2 : (E : Int) ≤ (s.size : Int) := by omega
          have hJE3 : J ≤ E := by omega
          clear hn h1 h2 c3 c4 c5 hof hTL hit hE hk hlx hk1
          obtain ⟨cc, hcc⟩ : ∃ cc, countsV k (s.extract J E) = cc := ⟨_, rfl⟩
          have c6 := fun W => refcounts_any k L C (s.extract J E) W
          rw [hcc] at c6
          have C6 := Lib.hid c6
          have HCC := Lib.hid hcc
          clear c6 hcc
          have hbw : bw = false := by
            have := (settle_it A (decide (J < s.size) && (L == A.ends))).2.2.2.2.1
            rw [HB.out] at this
            exact this
          have hbg : bg ≤ acc.length := by
            have h1 := (settle_it A (decide (J < s.size) && (L == A.ends))).2.2.1
            rw [HB.out] at h1
            have h2 := (told_all s acc).gapLe
            rw [HR.a] at h2
            have h3 : bg = A.gap := h1
            omega
          have hwr : wrap64 ((bg : Int) + 1) = (bg : Int) + 1 := by
            have := HSM.out
            exact IntWalk.wrap64_in _ ⟨by omega, by omega⟩
          have HBW := Lib.hid hbw
          clear hbw hbg
          have hnt : isNote ⟨k, J, E⟩ = false := decide_eq_false (by have := HK1.out; show ¬ k < 0; omega)
          have hgap : toksL (acc ++ [⟨k, J, E⟩]) = toksL acc ++ [⟨k, J, E⟩] := by
            rw [toksL_add, hnt]
            rfl
          have hstep : accS s (acc ++ [⟨k, J, E⟩]) = ⟨if cc = true then bg + 1 else bg, TL, true, false, bn⟩ := by
            have hb := HB.out
            rw [decide_eq_true h0, Bool.true_and] at hb
            rw [accS_add, HR.a]
            unfold stepA
            rw [if_neg (by rw [hnt]; decide)]
            show addTok s (settle A (lineS s J == A.ends)) ⟨k, J, E⟩ = _
            rw [HR.l, hb]
            unfold addTok
            show (⟨if counts s ⟨k, J, E⟩ = true then bg + 1 else bg, lineS s E, true, bw, bn⟩ : Acc) = _
            rw [show counts s ⟨k, J, E⟩ = countsV k (s.extract J E) from rfl, HCC.out, HTL.out, HBW.out]
          have hat2 : At s E (acc ++ [⟨k, J, E⟩]) := HR.at_.more (t := ⟨k, J, E⟩) (by rw [HR.j]; exact HN.out)
          have HGAP := Lib.hid hgap
          have HSTEP := Lib.hid hstep
          have HTC : Hid (tokC s ⟨k, J, E⟩ = [.int .i64 k, .string (s.extract J E), .int .i64 L, .int .i64 C]) := by
            unfold Hid tokC txt
            rw [HR.l, HR.c]
          clear hgap hstep hnt
          go_upto_region 35 with (first | (go_at_call 23; refine (C3.out _).mono ?_; rintro e w3 ⟨rfl, rfl⟩) | (go_at_call 24; refine (C4.out _).mono ?_; rintro e wd ⟨rfl, hb4⟩))
          have hrxd := HRX2.out.below hb4 (Nat.le_refl _)
          have HWD := Lib.hid hb4.size
          obtain ⟨W1, hW1⟩ : ∃ W1, W1 = wd.alloc (.cells #[.int .i64 k, .string (s.extract J E), .int .i64 L, .int .i64 C] 36) := ⟨_, rfl⟩
          have hrx3 := hrxd.below (wr' := W1) (C := wd.heap.size) (by rw [hW1]; exact (Below.refl _ _).alloc (Nat.le_refl _) _) (Nat.le_refl _)
          have hsz : W1.heap.size = wd.heap.size + 1 := by rw [hW1, World.size_alloc]
          have hblk : W1.heap[wd.heap.size]? = some (.cells #[.int .i64 k, .string (s.extract J E), .int .i64 L, .int .i64 C] 36 (0, 0)) := by rw [hW1]; exact heap_alloc_new wd _
          have hrxa := hrx3.below (wr' := W1.alloc (.cells #[.int .i64 k, .string (s.extract J E), .int .i64 L, .int .i64 C] 36)) (C := W1.heap.size) ((Below.refl _ _).alloc (Nat.le_refl _) _) (Nat.le_refl _)
          have hlts := World.ownsRow.lt hrxd.tok
          have HRXA := Lib.hid hrxa
          have HBLK := Lib.hid hblk
          have HW1 := Lib.hid hW1
          have HSZ := Lib.hid hsz
          have HLTS := Lib.hid hlts
          have a1 := hrx3.cell.1
          have hcl : ∀ j, W1.cell? ⟨wd.heap.size, j, none⟩ = (#[.int .i64 k, .string (s.extract J E), .int .i64 L, .int .i64 C] : Array Value)[j]? := fun j => by rw [hW1]; exact new_cells _ _ _ _
          have n0 := hcl 0
          have n1 := hcl 1
          have n2 := hcl 2
          have n3 := hcl 3
          simp only [List.getElem?_toArray, List.getElem?_cons_zero, List.getElem?_cons_succ] at n0 n1 n2 n3
          clear hrxd hrx3 hsz hblk hrxa hlts hcl hW1 hb4
          go_upto_region 36 with fail
          rw [← HW1.out]
          go_wp2_with (first | (at_builtin; refine append_tok s _ rfl _ _ rfl (w.heap.size + 2) _ _ rfl HRXA.out.tok ⟨W1.heap.size, 0, none⟩ ⟨k, J, E⟩ 1 rfl ?d1 ?d2 ?d3 ?_))
          case d1 =>
            intro j u hj
            rw [HTC.out] at hj
            rw [add_plain, new_cells]
            simpa using hj
          case d2 =>
            have := HSM.out
            omega
          case d3 =>
            have := HRXA.out.bel.size
            have := lt_of_block HRXA.out.blk
            omega
          intro v' w3 g1 g2 g3
          obtain ⟨va, vk, vc, rfl⟩ := own_slice g1
          have hl := HRXA.out.grownT g2
          have b2 := hl.cells.1
          have b3 := hl.free 0
          have hp := HRXA.out.pushT g1 g2 (by rw [World.size_alloc]; exact g3)
          have hN3 : (w3.setCell ⟨w.heap.size + 1, 0, none⟩ (.slice va vk vc)).heap[wd.heap.size]? = some (.cells #[.int .i64 k, .string (s.extract J E), .int .i64 L, .int .i64 C] 36 (0, 0)) := by
            refine setCell_other ?_ ?_
            · refine (g2.block _ ?_ ?_).trans ((Below.heap_alloc _ _ _ ?_).trans HBLK.out)
              · rw [World.size_alloc]
                have := HSZ.out
                omega
              · intro e
                have := (HLTS.out _ e.symm).2
                omega
              · have := HSZ.out
                omega
            · dsimp only
              have := lt_of_block HRX2.out.blk
              have := HWD.out
              omega
          obtain ⟨W5, hW5⟩ : ∃ W5, W5 = w3.setCell ⟨w.heap.size + 1, 0, none⟩ (.slice va vk vc) := ⟨_, rfl⟩
          rw [← hW5] at hp hN3
          have m0 : W5.cell? ⟨wd.heap.size, 0, none⟩ = some (.int .i64 k) := by rw [cell_of_row W5 _ _ _ _ _ hN3]; rfl
          have m1 : W5.cell? ⟨wd.heap.size, 1, none⟩ = some (.string (s.extract J E)) := by rw [cell_of_row W5 _ _ _ _ _ hN3]; rfl
          have m2 : W5.cell? ⟨wd.heap.size, 2, none⟩ = some (.int .i64 L) := by rw [cell_of_row W5 _ _ _ _ _ hN3]; rfl
          have m3 : W5.cell? ⟨wd.heap.size, 3, none⟩ = some (.int .i64 C) := by rw [cell_of_row W5 _ _ _ _ _ hN3]; rfl
          have HP := Lib.hid hp
          have HW5 := Lib.hid hW5
          clear g1 g2 g3 hl hp hN3 hW5 a1 n0 n1 n2 n3
          go_upto_region 37 with fail
          rw [← HW5.out]
          clear b2 b3
          cases hcc : cc with
          | false =>
            rw [hcc] at C6
            have HCF := Lib.hid hcc
            clear hcc
            go_wp2_with (first | (go_at_call 25; refine (C6.out _).mono ?_; rintro e w6 ⟨rfl, hb6⟩) | (go_at_call 22; refine (C5.out _).mono ?_; rintro e w7 ⟨rfl, rfl⟩))
            have HP6 := Lib.hid (HP.out.below hb6 (Nat.le_refl _))
            go_roundw
            case rel =>
              refine ⟨E, acc ++ [⟨k, J, E⟩], .slice va vk vc, vn, hat2, ?_, rfl, ?_, ?_, ?_, ?_⟩
              · rw [HSTEP.out, HCF.out]
                rfl
              · rw [HSTEP.out]
              · rw [HSTEP.out]
              · rw [HSTEP.out]
              · rw [HSTEP.out, HGAP.out]
                exact HP6.out
            case measure => simp [intOf]; omega
          | true =>
            rw [hcc] at C6
            have HCF := Lib.hid hcc
            clear hcc
            go_wp2_with (first | (go_at_call 25; refine (C6.out _).mono ?_; rintro e w6 ⟨rfl, hb6⟩) | (go_at_call 22; refine (C5.out _).mono ?_; rintro e w7 ⟨rfl, rfl⟩))
            have HP6 := Lib.hid (HP.out.below hb6 (Nat.le_refl _))
            go_roundw
            case rel =>
              refine ⟨E, acc ++ [⟨k, J, E⟩], .slice va vk vc, vn, hat2, ?_, rfl, ?_, ?_, ?_, ?_⟩
              · rw [HSTEP.out, HCF.out]
                rfl
              · rw [HSTEP.out]
              · rw [HSTEP.out]
              · rw [HSTEP.out]
              · rw [HSTEP.out, HGAP.out]
                exact HP6.out
            case measure => simp [intOf]; omega
  · have HE : Hid (errS s = runesE s ∧ posS s = runesN s) := by
      unfold Hid errS posS
      rw [if_pos h0, if_pos h0]
      exact ⟨rfl, rfl⟩
    have HZ := Lib.hid h0
    have hb : (runesE s != 0) = true := by rw [bne_iff_ne]; exact h0
    clear h0
    generalize runesE s = re at *
    generalize runesN s = rn0 at *
    go_enter Tryz.func10, Tryz.ntmps10
    go_wp2_with fail
    refine (C0.out _).mono ?_
    rintro e w1 ⟨rfl, rfl⟩
    go_wp2_with fail
    go_returns
    have hne : ¬ errS s = 0 := by rw [HE.out.1]; exact HZ.out
    have hi : itemsS s = [] := by unfold itemsS; rw [if_neg hne]
    exact ⟨_, _, by rw [HE.out.1, HE.out.2], by rw [hi]; exact Toks.nil _ _ _, by rw [if_neg hne]; exact Notes.nil _ _ _, (Below.refl _ _).alloc (Nat.le_refl _) _, fun b h => by simp [Value.ownBlock] at h⟩
end Go.Proofs.YtkehchajgdepaaaGreatDoor.Lx
