/-
  The document's own Right, top, at, push, pop and Close at any states. Conditions: at most 2^40 tokens and blocks.
-/
import Derived.Test.YtmgclgojmckfhaaZTk
namespace Go.Proofs.Ytmgclgojmckfhaa.Lay
open Tks Mrk Go.RowKit
set_option linter.unusedSimpArgs false
set_option linter.unusedVariables false

theorem afterL {w a b : World} (h : Below w.heap.size w a) (k : Below a.heap.size a b) : Below w.heap.size w b := h.trans (k.mono h.size)
theorem wrap_pred (n : Nat) (h0 : 0 < n) (h : n ≤ 1099511627777) : IntKind.i64.wrap ((n : Int) - 1) = ((n - 1 : Nat) : Int) ∧ wrap64 ((n : Int) - 1) = ((n - 1 : Nat) : Int) := by
  have e : wrap64 ((n : Int) - 1) = ((n - 1 : Nat) : Int) := by rw [IntWalk.wrap64_in _ ⟨by omega, by omega⟩]; omega
  exact ⟨by rw [IntWalk.i64_left]; exact e, e⟩
theorem top_at {o : List Int} {m : Nat} (h : o.length = m + 1) : o[m]? = some (topL o) := by
  unfold topL
  rw [List.getLast?_eq_getElem?, h, Nat.add_sub_cancel]
  rw [List.getElem?_eq_getElem (by omega)]
  rfl
theorem reftop_any (v : Value) (s : Sx) (w : World) (hv : StV w v s) (hf : Fit9 s) :
    Calls Try.prog 69 #[v] w fun e w' => e = .returned (.int .i64 (topL s.opn)) ∧ Below w.heap.size w w' := by
  obtain ⟨vt, vo, rfl, ht, ho⟩ := hv
  have HF := Lib.hid hf
  clear hf
  obtain ⟨at1, ct1, rfl⟩ := ht.len
  clear ht
  by_cases hl : s.opn.length = 0
  · obtain ⟨a, c, rfl⟩ := ho.len
    have h0 : s.opn = [] := List.eq_nil_of_length_eq_zero hl
    have ht : topL s.opn = 0 := by rw [h0]; rfl
    rw [hl, ht]
    clear hl h0 ht ho HF
    go_enter Try.func69, Try.ntmps69
    go_wp2
    go_ret
    exact ⟨rfl, by go_grown⟩
  · obtain ⟨b, off, c, rfl, hlc, hlt, hc⟩ := ho.cells hl
    obtain ⟨m, hm⟩ : ∃ m, s.opn.length = m + 1 := ⟨s.opn.length - 1, by omega⟩
    have hx := hc m _ (top_at hm)
    have x0 := fun o : Obj => (World.cell?_alloc_lt w (o := o) (a := ⟨b, off + m, none⟩) hlt).trans hx
    obtain ⟨hw1, hw2⟩ := wrap_pred s.opn.length (by omega) (by have := HF.out.2; omega)
    have em : s.opn.length - 1 = m := by omega
    rw [em] at hw1 hw2
    have hl0 : ((s.opn.length : Int) == 0) = false := by rw [beq_eq_false_iff_ne]; omega
    have i0 : (0 : Int) ≤ (m : Int) := by omega
    have i1 : (m : Int) < (s.opn.length : Int) := by omega
    have ne : ¬ b = w.heap.size := by omega
    clear hc hlc hm ho em hl HF
    go_enter Try.func69, Try.ntmps69
    go_wp2
    go_ret
    exact ⟨rfl, by go_grown⟩
theorem refat_any9 (t : Tk) (k : Int) (w : World) :
    Calls Try.prog 71 #[.int .i64 k, .agg #[.int .i64 t.kind, .string t.text, .int .i64 t.line, .int .i64 t.col]] w fun e w' => e = .returned (.agg #[.int .i64 k, .string ⟨#[]⟩, .int .i64 t.line, .int .i64 t.col]) ∧ Below w.heap.size w w' := by
  go_enter Try.func71, Try.ntmps71
  go_wp2
  go_returns
  exact ⟨rfl, by go_grown⟩
/-- A block lies there. -/
def Lies (W : World) (B : Nat) (o : Obj) : Prop := W.heap[B]? = some o
theorem Lies.new (W : World) (o : Obj) : Lies (W.alloc o) W.heap.size o := heap_alloc_new W o
theorem Lies.lt {W : World} {B : Nat} {o : Obj} (h : Lies W B o) : B < W.heap.size := (Array.getElem?_eq_some_iff.1 h).1
theorem Lies.below {W W' : World} {B C : Nat} {o : Obj} (h : Lies W B o) (hb : Below C W W') (hB : B < C) : Lies W' B o := (hb.block B hB).trans h
theorem Lies.alloc {W : World} {B : Nat} {o : Obj} (h : Lies W B o) (p : Obj) : Lies (W.alloc p) B o := h.below ((Below.refl W.heap.size W).alloc (Nat.le_refl _) p) h.lt
theorem Lies.cell {W : World} {B : Nat} {cs : Array Value} {t : TypeId} {fr : Nat × Nat} (h : Lies W B (.cells cs t fr)) (j : Nat) : W.cell? ⟨B, j, none⟩ = cs[j]? := cell_of_row _ _ _ _ _ _ h
theorem Lies.free {W : World} {B : Nat} {cs : Array Value} {t : TypeId} (h : Lies W B (.cells cs t)) (j : Nat) : W.frozen? ⟨B, j, none⟩ = false := by simp [World.frozen?, show W.heap[B]? = _ from h]
def stO (vt : Value) (i : Int) (vo : Value) (w : Int) : Obj := .cells #[vt, .int .i64 i, vo, .int .i64 w] 25
theorem Lies.four {W : World} {B : Nat} {vt vo : Value} {i w : Int} (h : Lies W B (stO vt i vo w)) :
    W.cell? ⟨B, 0, none⟩ = some vt ∧ W.cell? ⟨B, 1, none⟩ = some (.int .i64 i) ∧ W.cell? ⟨B, 2, none⟩ = some vo ∧ W.cell? ⟨B, 3, none⟩ = some (.int .i64 w) ∧ W.frozen? ⟨B, 0, none⟩ = false ∧ W.frozen? ⟨B, 1, none⟩ = false ∧ W.frozen? ⟨B, 2, none⟩ = false ∧ W.frozen? ⟨B, 3, none⟩ = false :=
  ⟨(Lies.cell h 0).trans rfl, (Lies.cell h 1).trans rfl, (Lies.cell h 2).trans rfl, (Lies.cell h 3).trans rfl, Lies.free h 0, Lies.free h 1, Lies.free h 2, Lies.free h 3⟩
theorem IntOwn.less {w : World} {A B : Nat} {v : Value} {l : List Int} (h : IntOwn w B v l) (hb : A ≤ B) : IntOwn w A v l :=
  ⟨h.1, h.2.imp id fun ⟨g, cap, cur, h1, h2, h3⟩ => ⟨g, cap, cur, h1, Nat.le_trans hb h2, h3⟩⟩
/-- A slice that holds something does not lie between two blocks. -/
def Apart (a z : Nat) (v : Value) : Prop := ∀ (b off n c : Nat), v = .slice (some ⟨b, off, none⟩) n c → n ≠ 0 → b < a ∨ z ≤ b
theorem IntOwn.apart {w : World} {B a z : Nat} {v : Value} {l : List Int} (h : IntOwn w B v l) (hz : z ≤ B) : Apart a z v := by
  intro b off n c e hn
  rcases h.2 with ⟨rfl, h0⟩ | ⟨g, cap, cur, rfl, hb, _⟩
  · cases e
  · cases e
    exact .inr (Nat.le_trans hz hb)
theorem TkArg.apart {w : World} {v : Value} {l : List Tk} {z : Nat} (h : TkArg w v l) : Apart w.heap.size z v := by
  intro b off n c e hn
  rcases h with ⟨_, a, q, rfl⟩ | ⟨g, o, q, rfl, hlt, _⟩
  · cases e
    exact absurd rfl hn
  · cases e
    exact .inl hlt
theorem IntArg.apart {w : World} {v : Value} {l : List Int} {z : Nat} (h : IntArg w v l) : Apart w.heap.size z v := by
  intro b off n c e hn
  rcases h with ⟨_, a, q, rfl⟩ | ⟨g, o, q, rfl, _, hlt, _⟩
  · cases e
    exact absurd rfl hn
  · cases e
    exact .inl hlt
theorem other_cell {W : World} {b b' o o' : Nat} (u : Value) (h : b ≠ b') : (W.setCell ⟨b', o', none⟩ u).cell? ⟨b, o, none⟩ = W.cell? ⟨b, o, none⟩ := World.cell?_setCell_other W _ _ u (fun e => h (by cases e; rfl))
theorem TkArg.set {W : World} {v : Value} {l : List Tk} {a z B j : Nat} (h : TkArg W v l) (ha : Apart a z v) (h1 : a ≤ B) (h2 : B < z) (u : Value) : TkArg (W.setCell ⟨B, j, none⟩ u) v l := by
  rcases h with h | ⟨g, off, q, hv, hlt, hc⟩
  · exact .inl h
  · by_cases hl : l.length = 0
    · exact .inl ⟨List.eq_nil_of_length_eq_zero hl, _, _, by rw [hv, hl]⟩
    · have hne : g ≠ B := by
        have := ha g off _ q hv hl
        omega
      refine .inr ⟨g, off, q, hv, ?_, fun i t ht k hk => ?_⟩
      · have := ((Below.refl 0 W).setCell (p := ⟨B, j, none⟩) (Nat.zero_le B) u).size
        omega
      · rw [other_cell u hne]
        exact hc i t ht k hk
theorem IntArg.set {W : World} {v : Value} {l : List Int} {a z B j : Nat} (h : IntArg W v l) (ha : Apart a z v) (h1 : a ≤ B) (h2 : B < z) (u : Value) : IntArg (W.setCell ⟨B, j, none⟩ u) v l := by
  rcases h with h | ⟨g, off, q, hv, hlc, hlt, hc⟩
  · exact .inl h
  · by_cases hl : l.length = 0
    · exact .inl ⟨List.eq_nil_of_length_eq_zero hl, _, _, by rw [hv, hl]⟩
    · have hne : g ≠ B := by
        have := ha g off _ q hv hl
        omega
      refine .inr ⟨g, off, q, hv, hlc, ?_, fun i x hx => ?_⟩
      · have := ((Below.refl 0 W).setCell (p := ⟨B, j, none⟩) (Nat.zero_le B) u).size
        omega
      · rw [other_cell u hne]
        exact hc i x hx
/-- Four cells of one block are written. -/
def set4 (W : World) (B : Nat) (a b c d : Value) : World := (((W.setCell ⟨B, 0, none⟩ a).setCell ⟨B, 1, none⟩ b).setCell ⟨B, 2, none⟩ c).setCell ⟨B, 3, none⟩ d
theorem set4_below {n B : Nat} {W W1 : World} (h : Below n W W1) (hB : n ≤ B) (a b c d : Value) : Below n W (set4 W1 B a b c d) :=
  (((h.setCell (p := ⟨B, 0, none⟩) hB a).setCell (p := ⟨B, 1, none⟩) hB b).setCell (p := ⟨B, 2, none⟩) hB c).setCell (p := ⟨B, 3, none⟩) hB d
theorem TkArg.set4 {W : World} {v : Value} {l : List Tk} {a z B : Nat} (h : TkArg W v l) (ha : Apart a z v) (h1 : a ≤ B) (h2 : B < z) (x y p q : Value) : TkArg (set4 W B x y p q) v l :=
  TkArg.set (TkArg.set (TkArg.set (TkArg.set h ha h1 h2 x) ha h1 h2 y) ha h1 h2 p) ha h1 h2 q
theorem IntArg.set4 {W : World} {v : Value} {l : List Int} {a z B : Nat} (h : IntArg W v l) (ha : Apart a z v) (h1 : a ≤ B) (h2 : B < z) (x y p q : Value) : IntArg (set4 W B x y p q) v l :=
  IntArg.set (IntArg.set (IntArg.set (IntArg.set h ha h1 h2 x) ha h1 h2 y) ha h1 h2 p) ha h1 h2 q
theorem two_lie (w : World) (o1 o2 : Obj) : Lies ((w.alloc o1).alloc o2) w.heap.size o1 ∧ Lies ((w.alloc o1).alloc o2) (w.heap.size + 1) o2 := by
  refine ⟨(Lies.new w o1).alloc o2, ?_⟩
  have := Lies.new (w.alloc o1) o2
  rwa [World.size_alloc] at this
set_option maxRecDepth 100000 in
set_option maxHeartbeats 2000000 in
theorem refpush_any (vt vo : Value) (s : Sx) (z : Int) (w : World) (ht : TkArg w vt s.toks) (ho : IntArg w vo s.opn) (hf : Fit9 s) :
    Calls Try.prog 70 #[.agg #[vt, .int .i64 s.at_, vo, .int .i64 s.wait], .int .i64 z] w fun e w' => ∃ r, e = .returned (.agg #[vt, .int .i64 s.at_, r, .int .i64 s.wait]) ∧ IntOwn w' w.heap.size r (s.opn ++ [z]) ∧ Below w.heap.size w w' := by
  obtain ⟨at1, ct1, rfl⟩ := ht.len
  obtain ⟨ao1, co1, rfl⟩ := ho.len
  have HL := Lib.hid hf.2
  have HO : Hid (∀ o1 o2 : Obj, IntArg ((w.alloc o1).alloc o2) (.slice ao1 s.opn.length co1) s.opn) := fun o1 o2 => ho.below (below_two w o1 o2) (Nat.le_refl _)
  have HT := Lib.hid ht
  have B0 : Hid (∀ o1 o2 : Obj, Below w.heap.size w ((w.alloc o1).alloc o2)) := fun o1 o2 => below_two w o1 o2
  have hsz : ∀ o1 o2 : Obj, ((w.alloc o1).alloc o2).heap.size = w.heap.size + 2 := fun o1 o2 => by simp
  have HS := Lib.hid hsz
  clear hf ho ht hsz
  go_enter Try.func70, Try.ntmps70
  go_wp2_with (first
    | (at_builtin; refine append_ints _ rfl _ _ rfl (w.heap.size + 2) _ [] rfl (IntOwn.nil _ _) _ s.opn rfl (HO.out _ _) (by have := HL.out; simp; omega) (by rw [HS.out]; omega) ?_; intro v1 w1 h1 b1; have H1 := Lib.hid h1; have B1 := Lib.hid b1; have L1 := Lib.hid ((two_lie w _ _).1.below b1 (by omega)); have R1 := Lib.hid ((two_lie w _ _).2.below b1 (by omega)); clear h1 b1; obtain ⟨c0, c1, c2, c3, f0, f1, f2, f3⟩ := L1.out.four)
    | (at_builtin; refine append_int1 w1 rfl _ _ rfl (w.heap.size + 2) v1 s.opn rfl (by exact H1.out) z _ 0 rfl (by have := HL.out; omega) (by have := B1.out.size; rw [HS.out] at this; omega) ?_; intro v2 w2 h2 b2; obtain ⟨p2, n2, q2, rfl⟩ := own_slice h2; have H2 := Lib.hid h2; have B2 := Lib.hid b2; have L2 := Lib.hid (L1.out.below b2 (by omega)); have R2 := Lib.hid (R1.out.below b2 (by omega)); clear h2 b2; obtain ⟨d0, d1, d2, d3, g0, g1, g2, g3⟩ := L2.out.four; obtain ⟨k0, k1, k2, k3, j0, j1, j2, j3⟩ := R2.out.four))
  have hb : Below w.heap.size w w2 := (B0.out _ _).trans ((B1.out.mono (by omega)).trans (B2.out.mono (by omega)))
  refine bodyPost_ret (by simp [results, Try.results70, go_sem, k0, k1, k2, k3]; try rfl) rfl ?_
  have hbf := ((((hb.setCell (p := ⟨w.heap.size, 2, none⟩) (Nat.le_refl _) (.slice p2 n2 q2)).setCell (p := ⟨w.heap.size + 1, 0, none⟩) (Nat.le_succ _) (.slice at1 s.toks.length ct1)).setCell (p := ⟨w.heap.size + 1, 1, none⟩) (Nat.le_succ _) (.int .i64 s.at_)).setCell (p := ⟨w.heap.size + 1, 2, none⟩) (Nat.le_succ _) (.slice p2 n2 q2)).setCell (p := ⟨w.heap.size + 1, 3, none⟩) (Nat.le_succ _) (.int .i64 s.wait)
  refine ⟨_, rfl, ?_, hbf⟩
  have h := H2.out
  unfold IntOwn at h ⊢
  refine IntOwn.less (B := w.heap.size + 2) ?_ (by omega)
  exact ownsRow_setCell_below (ownsRow_setCell_below (ownsRow_setCell_below (ownsRow_setCell_below (ownsRow_setCell_below h (by dsimp only; omega) _) (by dsimp only; omega) _) (by dsimp only; omega) _) (by dsimp only; omega) _) (by dsimp only; omega) _
set_option maxRecDepth 100000 in
set_option maxHeartbeats 2000000 in
theorem refpop_any (vt vo : Value) (s : Sx) (w : World) (ht : TkArg w vt s.toks) (ho : IntArg w vo s.opn) (hf : Fit9 s) (hne : s.opn ≠ []) :
    Calls Try.prog 72 #[.agg #[vt, .int .i64 s.at_, vo, .int .i64 s.wait]] w fun e w' => ∃ r, e = .returned (.agg #[vt, .int .i64 s.at_, r, .int .i64 s.wait]) ∧ IntOwn w' w.heap.size r s.opn.dropLast ∧ Below w.heap.size w w' := by
  obtain ⟨at1, ct1, rfl⟩ := ht.len
  have hl : s.opn.length ≠ 0 := fun e => hne (List.eq_nil_of_length_eq_zero e)
  have HL := Lib.hid hf.2
  have B0 : Hid (∀ o1 o2 : Obj, Below w.heap.size w ((w.alloc o1).alloc o2)) := fun o1 o2 => below_two w o1 o2
  have HO : Hid (∀ o1 o2 : Obj, IntArg ((w.alloc o1).alloc o2) vo s.opn) := fun o1 o2 => ho.below (below_two w o1 o2) (Nat.le_refl _)
  obtain ⟨b, off, c, rfl, hlc, hlt, hc⟩ := ho.cells hl
  have HP : Hid (∀ o1 o2 : Obj, IntArg ((w.alloc o1).alloc o2) (.slice (some ⟨b, off, none⟩) (s.opn.length - 1) c) s.opn.dropLast) := fun o1 o2 => by
    rw [List.dropLast_eq_take]
    exact (IntArg.take hlc hlt hc (by omega)).below (below_two w o1 o2) (Nat.le_refl _)
  have HT := Lib.hid ht
  have hsz : ∀ o1 o2 : Obj, ((w.alloc o1).alloc o2).heap.size = w.heap.size + 2 := fun o1 o2 => by simp
  have HS := Lib.hid hsz
  obtain ⟨hw1, hw2⟩ := wrap_pred s.opn.length (by omega) (by have := HL.out; omega)
  have HLN : Hid (s.opn.dropLast.length ≤ 1099511627776) := by unfold Hid; rw [List.length_dropLast]; have := HL.out; omega
  obtain ⟨m, hm⟩ : ∃ m, s.opn.length - 1 = m := ⟨_, rfl⟩
  rw [hm] at hw1 hw2 HP
  have i0 : (0 : Int) ≤ (m : Int) := by omega
  have i1 : (m : Int) ≤ (c : Int) := by omega
  have i2 : (m : Int) ≤ (s.opn.length : Int) := by omega
  clear hf ho ht hsz hc hlc hlt hl hne hm
  go_enter Try.func72, Try.ntmps72
  go_wp2_with (first
    | (at_builtin; refine append_ints _ rfl _ _ rfl (w.heap.size + 2) _ [] rfl (IntOwn.nil _ _) _ s.opn.dropLast rfl (HP.out _ _) (by have := HLN.out; simp only [List.length_nil]; omega) (by rw [HS.out]; omega) ?_; intro v1 w1 h1 b1; obtain ⟨p2, n2, q2, rfl⟩ := own_slice h1; have H1 := Lib.hid h1; have B1 := Lib.hid b1; have L1 := Lib.hid ((two_lie w _ _).1.below b1 (by omega)); have R1 := Lib.hid ((two_lie w _ _).2.below b1 (by omega)); clear h1 b1; obtain ⟨c0, c1, c2, c3, f0, f1, f2, f3⟩ := L1.out.four; obtain ⟨k0, k1, k2, k3, j0, j1, j2, j3⟩ := R1.out.four))
  have hb : Below w.heap.size w w1 := (B0.out _ _).trans (B1.out.mono (by omega))
  refine bodyPost_ret (by simp [results, Try.results72, go_sem, k0, k1, k2, k3]; try rfl) rfl ?_
  have hbf := ((((hb.setCell (p := ⟨w.heap.size, 2, none⟩) (Nat.le_refl _) (.slice p2 n2 q2)).setCell (p := ⟨w.heap.size + 1, 0, none⟩) (Nat.le_succ _) (.slice at1 s.toks.length ct1)).setCell (p := ⟨w.heap.size + 1, 1, none⟩) (Nat.le_succ _) (.int .i64 s.at_)).setCell (p := ⟨w.heap.size + 1, 2, none⟩) (Nat.le_succ _) (.slice p2 n2 q2)).setCell (p := ⟨w.heap.size + 1, 3, none⟩) (Nat.le_succ _) (.int .i64 s.wait)
  refine ⟨_, rfl, ?_, hbf⟩
  have h := H1.out
  unfold IntOwn at h ⊢
  refine IntOwn.less (B := w.heap.size + 2) ?_ (by omega)
  exact ownsRow_setCell_below (ownsRow_setCell_below (ownsRow_setCell_below (ownsRow_setCell_below (ownsRow_setCell_below h (by dsimp only; omega) _) (by dsimp only; omega) _) (by dsimp only; omega) _) (by dsimp only; omega) _) (by dsimp only; omega) _
end Go.Proofs.Ytmgclgojmckfhaa.Lay
/-
  The document's own Right and Close at any states. Conditions: at most 2^40 tokens and blocks.
-/
namespace Go.Proofs.Ytmgclgojmckfhaa.Lay
open Tks Mrk Go.RowKit
set_option linter.unusedSimpArgs false
set_option linter.unusedVariables false

theorem okB_no {s : Sx} (h : ∀ n : Nat, s.at_ = n → ¬ Ok s.toks n s.opn s.wait) : okB s = false := by
  rw [Bool.eq_false_iff]
  intro e
  obtain ⟨n, h1, h2⟩ := (okB_iff s).1 e
  exact h n h1 h2
theorem okB_loop {toks : List Tk} {n : Nat} {opn : List Int} {wait : Int} (h1 : n ≤ toks.length) (h2 : 0 ≤ wait) (h3 : wait ≤ 2) (h4 : 0 < wait → ∃ t, toks[n]? = some t ∧ t.kind = 16) :
    okB ⟨toks, n, opn, wait⟩ = opn.all (fun c => decide (0 ≤ c)) := by
  rw [Bool.eq_iff_iff, okB_iff, List.all_eq_true]
  constructor
  · rintro ⟨m, -, h⟩ c hc
    exact decide_eq_true (h.opn c hc)
  · intro h
    exact ⟨n, rfl, h1, fun c hc => of_decide_eq_true (h c hc), h2, h3, h4⟩
set_option maxRecDepth 100000 in
set_option maxHeartbeats 4000000 in
theorem refright_any (v : Value) (s : Sx) (w : World) (hv : StV w v s) (hf : Fit9 s) :
    Calls Try.prog 68 #[v] w fun e w' => e = .returned (.bool (okB s)) ∧ Below w.heap.size w w' := by
  obtain ⟨toks, i, o, wt⟩ := s
  obtain ⟨vt, vo, rfl, ht, ho⟩ := hv
  obtain ⟨hf1, hf2⟩ := hf
  dsimp only at ht ho hf1 hf2 ⊢
  have B0 : Hid (∀ o1 : Obj, Below w.heap.size w (w.alloc o1)) := fun o1 => (Below.refl _ _).alloc (Nat.le_refl _) o1
  have no : ∀ P : Prop, ¬ P → (∀ n : Nat, i = n → Ok toks n o wt → P) → Hid (okB ⟨toks, i, o, wt⟩ = false) := fun P hP h => okB_no (fun n h1 h2 => hP (h n h1 h2))
  obtain ⟨at1, ct1, e1⟩ := ht.len
  obtain ⟨ao1, co1, e2⟩ := ho.len
  by_cases a1 : i < 0
  · have HN := no False id (fun n h1 h2 => by omega)
    subst e1 e2
    have x1 : decide (i < 0) = true := decide_eq_true a1
    clear no ht ho hf1 hf2 a1
    go_enter Try.func68, Try.ntmps68
    go_wp2_with fail
    go_ret
    exact ⟨by rw [HN.out]; rfl, B0.out _⟩
  have x1 : decide (i < 0) = false := decide_eq_false a1
  obtain ⟨n, rfl⟩ : ∃ n : Nat, i = n := ⟨i.toNat, by omega⟩
  by_cases a2 : toks.length < n
  · have HN := no False id (fun m h1 h2 => by have := h2.at_; omega)
    subst e1 e2
    have x2 : decide ((toks.length : Int) < (n : Int)) = true := decide_eq_true (by omega)
    have x2n : decide (toks.length < n) = true := decide_eq_true a2
    clear no ht ho hf1 hf2 a1 a2
    go_enter Try.func68, Try.ntmps68
    go_wp2_with fail
    go_ret
    exact ⟨by rw [HN.out]; rfl, B0.out _⟩
  have x2 : decide ((toks.length : Int) < (n : Int)) = false := decide_eq_false (by omega)
  have x2n : decide (toks.length < n) = false := decide_eq_false a2
  by_cases a3 : wt < 0
  · have HN := no False id (fun m h1 h2 => by have := h2.wlo; omega)
    subst e1 e2
    have x3 : decide (wt < 0) = true := decide_eq_true a3
    clear no ht ho hf1 hf2 a1 a2 a3
    go_enter Try.func68, Try.ntmps68
    go_wp2_with fail
    go_ret
    exact ⟨by rw [HN.out]; rfl, B0.out _⟩
  have x3 : decide (wt < 0) = false := decide_eq_false a3
  by_cases a4 : 2 < wt
  · have HN := no False id (fun m h1 h2 => by have := h2.whi; omega)
    subst e1 e2
    have x4 : decide (2 < wt) = true := decide_eq_true a4
    clear no ht ho hf1 hf2 a1 a2 a3 a4
    go_enter Try.func68, Try.ntmps68
    go_wp2_with fail
    go_ret
    exact ⟨by rw [HN.out]; rfl, B0.out _⟩
  have x4 : decide (2 < wt) = false := decide_eq_false a4
  by_cases a5 : 0 < wt
  · have x5 : decide (0 < wt) = true := decide_eq_true a5
    by_cases a6 : n = toks.length
    · have HN := no False id (fun m h1 h2 => by
        obtain ⟨t, h3, -⟩ := h2.wat a5
        have := (List.getElem?_eq_some_iff.1 h3).1
        omega)
      subst e1 e2
      have x6 : ((n : Int) == (toks.length : Int)) = true := by rw [beq_iff_eq]; omega
      have x6n : (n == toks.length) = true := by rw [beq_iff_eq]; omega
      clear no ht ho hf1 hf2 a1 a2 a3 a4 a5 a6
      go_enter Try.func68, Try.ntmps68
      go_wp2_with fail
      go_ret
      exact ⟨by rw [HN.out]; rfl, B0.out _⟩
    have x6 : ((n : Int) == (toks.length : Int)) = false := by rw [beq_eq_false_iff_ne]; omega
    have x6n : (n == toks.length) = false := by rw [beq_eq_false_iff_ne]; omega
    obtain ⟨t, ht5⟩ : ∃ t, toks[n]? = some t := ⟨_, List.getElem?_eq_getElem (by omega)⟩
    obtain ⟨tb, to, tc, e3, h1, h2⟩ := ht.cells (by omega)
    rw [e1] at e3
    simp only [Value.slice.injEq] at e3
    obtain ⟨rfl, -, rfl⟩ := e3
    have HI : TkIn w tb to toks := ⟨h1, h2⟩
    have hk5 := (HI.four n t ht5).1
    have d5 := fun p : Obj => (World.cell?_alloc_lt w (o := p) (a := ⟨tb, to + n * 4, none⟩) h1).trans hk5
    have ne6 : ¬ tb = w.heap.size := by omega
    have j0 : (0 : Int) ≤ (n : Int) := by omega
    have j1 : (n : Int) < (toks.length : Int) := by omega
    by_cases a7 : t.kind = 16
    · have x7 : (t.kind != 16) = false := by rw [a7]; rfl
      have HK := Lib.hid (okB_loop (opn := o) (by omega : n ≤ toks.length) (by omega : 0 ≤ wt) (by omega) (fun _ => ⟨t, ht5, a7⟩))
      subst e1 e2
      have HO := Lib.hid ho
      have HF := Lib.hid hf2
      clear no ht ho hf1 hf2 a1 a2 a3 a4 a5 a6 a7 HI hk5 h1 h2 ht5
      go_enter Try.func68, Try.ntmps68
      go_wp2_with fail
      go_loopw [3] (fun iv wr => ∃ k : Nat, iv = .int .i64 (k : Int) ∧ wr = w.alloc (stO (.slice (some ⟨tb, to, none⟩) toks.length ct1) (n : Int) (.slice ao1 o.length co1) wt) ∧ k ≤ o.length ∧ ∀ j x, j < k → o[j]? = some x → 0 ≤ x) (fun iv _ => o.length - (intOf iv).toNat)
      case atStart => exact ⟨0, rfl, rfl, by omega, fun j x hj => absurd hj (by omega)⟩
      case round =>
        obtain ⟨k, rfl, rfl, hk, hno⟩ := hrel
        have HNO := Lib.hid hno
        clear hno
        unfold stO
        by_cases hp : k < o.length
        · obtain ⟨x, hx⟩ : ∃ x, o[k]? = some x := ⟨_, List.getElem?_eq_getElem hp⟩
          obtain ⟨gb, go, gc, e5, -, hlt5, hc5⟩ := HO.out.cells (by omega)
          simp only [Value.slice.injEq] at e5
          obtain ⟨rfl, -, rfl⟩ := e5
          have c5 := fun p : Obj => (World.cell?_alloc_lt w (o := p) (a := ⟨gb, go + k, none⟩) hlt5).trans (hc5 k x hx)
          have HX := Lib.hid hx
          have hw4 : IntKind.i64.wrap ((k : Int) + 1) = (k : Int) + 1 := by rw [IntWalk.i64_left]; exact idx_at k o.length hp (Nat.le_trans HF.out (by decide))
          have hw5 : wrap64 ((k : Int) + 1) = (k : Int) + 1 := idx_at k o.length hp (Nat.le_trans HF.out (by decide))
          have i0 : (0 : Int) ≤ (k : Int) := by omega
          have i1 : (k : Int) < (o.length : Int) := by omega
          have ne5 : ¬ gb = w.heap.size := by omega
          clear hc5 hx
          by_cases hx0 : x < 0
          · have y0 : decide (x < 0) = true := decide_eq_true hx0
            have HA : Hid (o.all (fun c => decide (0 ≤ c)) = false) := by
              unfold Hid
              rw [List.all_eq_false]
              exact ⟨x, List.mem_of_getElem? HX.out, by simp; omega⟩
            clear hx0
            go_wp2_with fail
            go_ret
            exact ⟨by rw [HK.out, HA.out]; rfl, B0.out _⟩
          · have y0 : decide (x < 0) = false := decide_eq_false hx0
            have HN2 : Hid (∀ j y, j < k + 1 → o[j]? = some y → 0 ≤ y) := fun j y hj hy => by
              by_cases q : j = k
              · subst q
                rw [HX.out] at hy
                cases hy
                omega
              · exact HNO.out j y (by omega) hy
            clear hx0
            go_wp2_with fail
            go_roundw
            case rel => exact ⟨k + 1, by go_num, by first | rfl | trivial, by omega, HN2.out⟩
            case measure => simp [intOf]; omega
        · have HA : Hid (o.all (fun c => decide (0 ≤ c)) = true) := by
            unfold Hid
            rw [List.all_eq_true]
            intro c hc
            obtain ⟨j, hj⟩ := List.mem_iff_getElem?.1 hc
            exact decide_eq_true (HNO.out j c (by have := (List.getElem?_eq_some_iff.1 hj).1; omega) hj)
          have lt1 : decide ((k : Int) < (o.length : Int)) = false := decide_eq_false (by omega)
          have lt2 : decide (k < o.length) = false := decide_eq_false hp
          go_wp2_with fail
          go_ret
          exact ⟨by rw [HK.out, HA.out]; rfl, B0.out _⟩
    · have x7 : (t.kind != 16) = true := by rw [bne_iff_ne]; exact a7
      have HN := no False id (fun m h1 h2 => by
        obtain ⟨u, h3, h4⟩ := h2.wat a5
        have : m = n := by omega
        subst this
        rw [ht5] at h3
        cases h3
        exact a7 h4)
      subst e1 e2
      clear no ht ho hf1 hf2 a1 a2 a3 a4 a5 a6 a7 HI hk5 h1 h2 ht5
      go_enter Try.func68, Try.ntmps68
      go_wp2_with fail
      go_ret
      exact ⟨by rw [HN.out]; rfl, B0.out _⟩
  · obtain rfl : wt = 0 := by omega
    have x5 : decide ((0 : Int) < 0) = false := rfl
    have HK := Lib.hid (okB_loop (opn := o) (by omega : n ≤ toks.length) (by omega : (0 : Int) ≤ 0) (by omega) (fun q => absurd q (by decide)))
    subst e1 e2
    have HO := Lib.hid ho
    have HF := Lib.hid hf2
    clear no ht ho hf1 hf2 a1 a2 a3 a4 a5
    go_enter Try.func68, Try.ntmps68
    go_wp2_with fail
    go_loopw [3] (fun iv wr => ∃ k : Nat, iv = .int .i64 (k : Int) ∧ wr = w.alloc (stO (.slice at1 toks.length ct1) (n : Int) (.slice ao1 o.length co1) 0) ∧ k ≤ o.length ∧ ∀ j x, j < k → o[j]? = some x → 0 ≤ x) (fun iv _ => o.length - (intOf iv).toNat)
    case atStart => exact ⟨0, rfl, rfl, by omega, fun j x hj => absurd hj (by omega)⟩
    case round =>
      obtain ⟨k, rfl, rfl, hk, hno⟩ := hrel
      have HNO := Lib.hid hno
      clear hno
      unfold stO
      by_cases hp : k < o.length
      · obtain ⟨x, hx⟩ : ∃ x, o[k]? = some x := ⟨_, List.getElem?_eq_getElem hp⟩
        obtain ⟨gb, go, gc, e5, -, hlt5, hc5⟩ := HO.out.cells (by omega)
        simp only [Value.slice.injEq] at e5
        obtain ⟨rfl, -, rfl⟩ := e5
        have c5 := fun p : Obj => (World.cell?_alloc_lt w (o := p) (a := ⟨gb, go + k, none⟩) hlt5).trans (hc5 k x hx)
        have HX := Lib.hid hx
        have hw4 : IntKind.i64.wrap ((k : Int) + 1) = (k : Int) + 1 := by rw [IntWalk.i64_left]; exact idx_at k o.length hp (Nat.le_trans HF.out (by decide))
        have hw5 : wrap64 ((k : Int) + 1) = (k : Int) + 1 := idx_at k o.length hp (Nat.le_trans HF.out (by decide))
        have i0 : (0 : Int) ≤ (k : Int) := by omega
        have i1 : (k : Int) < (o.length : Int) := by omega
        have ne5 : ¬ gb = w.heap.size := by omega
        clear hc5 hx
        by_cases hx0 : x < 0
        · have y0 : decide (x < 0) = true := decide_eq_true hx0
          have HA : Hid (o.all (fun c => decide (0 ≤ c)) = false) := by
            unfold Hid
            rw [List.all_eq_false]
            exact ⟨x, List.mem_of_getElem? HX.out, by simp; omega⟩
          clear hx0
          go_wp2_with fail
          go_ret
          exact ⟨by rw [HK.out, HA.out]; rfl, B0.out _⟩
        · have y0 : decide (x < 0) = false := decide_eq_false hx0
          have HN2 : Hid (∀ j y, j < k + 1 → o[j]? = some y → 0 ≤ y) := fun j y hj hy => by
            by_cases q : j = k
            · subst q
              rw [HX.out] at hy
              cases hy
              omega
            · exact HNO.out j y (by omega) hy
          clear hx0
          go_wp2_with fail
          go_roundw
          case rel => exact ⟨k + 1, by go_num, by first | rfl | trivial, by omega, HN2.out⟩
          case measure => simp [intOf]; omega
      · have HA : Hid (o.all (fun c => decide (0 ≤ c)) = true) := by
          unfold Hid
          rw [List.all_eq_true]
          intro c hc
          obtain ⟨j, hj⟩ := List.mem_iff_getElem?.1 hc
          exact decide_eq_true (HNO.out j c (by have := (List.getElem?_eq_some_iff.1 hj).1; omega) hj)
        have lt1 : decide ((k : Int) < (o.length : Int)) = false := decide_eq_false (by omega)
        have lt2 : decide (k < o.length) = false := decide_eq_false hp
        go_wp2_with fail
        go_ret
        exact ⟨by rw [HK.out, HA.out]; rfl, B0.out _⟩
end Go.Proofs.Ytmgclgojmckfhaa.Lay
/-
  The document's own Close at any states. Conditions: at most 2^40 tokens and blocks.
-/
namespace Go.Proofs.Ytmgclgojmckfhaa.Lay
open Tks Mrk Go.RowKit
set_option linter.unusedSimpArgs false
set_option linter.unusedVariables false

theorem okB_top {s : Sx} (h : okB s = true) : 0 ≤ topL s.opn := by
  obtain ⟨n, -, h⟩ := (okB_iff s).1 h
  exact topL_nonneg h.opn
end Go.Proofs.Ytmgclgojmckfhaa.Lay
