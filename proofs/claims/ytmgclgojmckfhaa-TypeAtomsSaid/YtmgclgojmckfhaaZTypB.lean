/-
  The document's small functions over states: Take, Bad, Is, Peek, Starts, Want. Condition: what the document's Next does (RefNext), and sizes that are borne.
-/
import Derived.Test.YtmgclgojmckfhaaZTypA
import Derived.Test.YtmgclgojmckfhaaZSal
import Derived.Deep.MidRow
namespace Go.Proofs.Ytmgclgojmckfhaa.Typ
open Tks Tre Go.RowKit
open Lay (Sx StV Fit9 nextS NextOut tkV9)
set_option linter.unusedSimpArgs false
set_option linter.unusedVariables false

/-- The block of a reading. -/
def rdO (h : Hd) (kv tv : Value) (a : Int) (ov : Value) (wt e : Int) : Obj := .cells #[.int .i64 h.kind, .int .i64 h.form, .string h.text, .int .i64 h.line, .int .i64 h.col, kv, tv, .int .i64 a, ov, .int .i64 wt, .int .i64 e] 36
def rdV (h : Hd) (kv tv : Value) (a : Int) (ov : Value) (wt e : Int) : Value := .agg #[.int .i64 h.kind, .int .i64 h.form, .string h.text, .int .i64 h.line, .int .i64 h.col, kv, tv, .int .i64 a, ov, .int .i64 wt, .int .i64 e]
def stB (tv : Value) (a : Int) (ov : Value) (wt : Int) : Obj := .cells #[tv, .int .i64 a, ov, .int .i64 wt] 25
def tkB (t : Tk) : Obj := .cells #[.int .i64 t.kind, .string t.text, .int .i64 t.line, .int .i64 t.col] 47
theorem four_st {W : World} {B : Nat} {tv ov : Value} {a wt : Int} (q : Lies W B (stB tv a ov wt)) : W.cell? ⟨B, 0, none⟩ = some tv ∧ W.cell? ⟨B, 1, none⟩ = some (.int .i64 a) ∧ W.cell? ⟨B, 2, none⟩ = some ov ∧ W.cell? ⟨B, 3, none⟩ = some (.int .i64 wt) :=
  ⟨(Lies.cell q 0).trans rfl, (Lies.cell q 1).trans rfl, (Lies.cell q 2).trans rfl, (Lies.cell q 3).trans rfl⟩
theorem four_tk {W : World} {B : Nat} {t : Tk} (q : Lies W B (tkB t)) : W.cell? ⟨B, 0, none⟩ = some (.int .i64 t.kind) ∧ W.cell? ⟨B, 1, none⟩ = some (.string t.text) ∧ W.cell? ⟨B, 2, none⟩ = some (.int .i64 t.line) ∧ W.cell? ⟨B, 3, none⟩ = some (.int .i64 t.col) :=
  ⟨(Lies.cell q 0).trans rfl, (Lies.cell q 1).trans rfl, (Lies.cell q 2).trans rfl, (Lies.cell q 3).trans rfl⟩
/-- What a call answers that reads: a tree, a state, an error. -/
def RdOut (x : Rd) (P : Nat → Prop) (B : Nat) (W : World) (e : Ending) (w' : World) : Prop :=
  ∃ ka kc ta tc oa oc, e = .returned (rdV x.h (.slice ka (len x.k) kc) (.slice ta x.s.toks.length tc) x.s.at_ (.slice oa x.s.opn.length oc) x.s.wait x.e) ∧ KOn w' P (.slice ka (len x.k) kc) x.k ∧ StOn w' P (.slice ta x.s.toks.length tc) (.slice oa x.s.opn.length oc) x.s ∧ Below B W w'
/-- The same, where a row of the caller's may have changed. -/
def RdOutG (x : Rd) (P : Nat → Prop) (r : Option Nat) (W : World) (e : Ending) (w' : World) : Prop :=
  ∃ ka kc ta tc oa oc, e = .returned (rdV x.h (.slice ka (len x.k) kc) (.slice ta x.s.toks.length tc) x.s.at_ (.slice oa x.s.opn.length oc) x.s.wait x.e) ∧ KOn w' P (.slice ka (len x.k) kc) x.k ∧ StOn w' P (.slice ta x.s.toks.length tc) (.slice oa x.s.opn.length oc) x.s ∧ W.grownBy w' r
theorem Mv.refl (w : World) (v : Value) : Mv w w v v := ⟨⟨rfl, rfl, rfl, Nat.le_refl _, fun _ _ _ => rfl⟩, .inl rfl⟩
theorem Mv.trans {a b c : World} {u v x : Value} (h : Mv a b u v) (k : Mv b c v x) : Mv a c u x := by
  refine ⟨⟨k.grown.os.trans h.grown.os, k.grown.tape.trans h.grown.tape, k.grown.output.trans h.grown.output, Nat.le_trans h.grown.size k.grown.size, fun j hj hne => ?_⟩, ?_⟩
  · refine (k.grown.block j (Nat.lt_of_lt_of_le hj h.grown.size) ?_).trans (h.grown.block j hj hne)
    rcases h.own with q | ⟨m, q, hm⟩
    · rw [q]
      exact hne
    · rw [q]
      intro e
      injection e with e
      omega
  · rcases k.own with q | ⟨m, q, hm⟩
    · rcases h.own with q2 | ⟨m, q2, hm⟩
      · exact .inl (q.trans q2)
      · exact .inr ⟨m, q.trans q2, hm⟩
    · exact .inr ⟨m, q, Nat.le_trans h.grown.size hm⟩
theorem Mv.ne {a b : World} {u v : Value} (h : Mv a b u v) {M : Nat} (h1 : u.ownBlock ≠ some M) (hM : M < a.heap.size) : v.ownBlock ≠ some M := by
  intro e
  rcases h.own with q | ⟨k, q, hk⟩
  · exact h1 (q ▸ e)
  · rw [q] at e
    injection e with e
    omega
theorem Mv.after {a b c : World} {u v : Value} (h : Mv a b u v) (k : Below b.heap.size b c) : Mv a c u v :=
  h.trans ⟨⟨k.os, k.tape, k.output, k.size, fun j hj _ => k.block j hj⟩, .inl rfl⟩
theorem Mv.set {a b : World} {u v : Value} (h : Mv a b u v) {p : Addr} (hp : a.heap.size ≤ p.block) (x : Value) : Mv a (b.setCell p x) u v :=
  ⟨⟨h.grown.os, h.grown.tape, h.grown.output, by rw [World.size_setCell]; exact h.grown.size, fun j hj hne => (Below.heap_setCell _ _ _ _ (by omega)).trans (h.grown.block j hj hne)⟩, h.own⟩
theorem Mv.set4 {a b : World} {u v : Value} (h : Mv a b u v) {S : Nat} (hS : a.heap.size ≤ S) (x y p q : Value) : Mv a (Lay.set4 b S x y p q) u v :=
  (((h.set (p := ⟨S, 0, none⟩) hS x).set (p := ⟨S, 1, none⟩) hS y).set (p := ⟨S, 2, none⟩) hS p).set (p := ⟨S, 3, none⟩) hS q
/-- Blocks of which P holds, those of a list left out. -/
def Pm (P : Nat → Prop) (l : List Nat) (b : Nat) : Prop := P b ∧ b ∉ l
theorem Pm.of {P : Nat → Prop} {l : List Nat} {n m : Nat} (hP : ∀ b, n ≤ b → P b) (hl : ∀ x ∈ l, x < m) (hn : n ≤ m) : ∀ b, m ≤ b → Pm P l b := fun b hb => ⟨hP b (by omega), fun h => by have := hl b h; omega⟩
/-- What a row and a state want of the blocks that a call may make. -/
theorem Pxm.of {P : Nat → Prop} {v : Value} {l : List Nat} {n m : Nat} (hP : ∀ b, n ≤ b → P b) (hl : ∀ x ∈ l, x < m) (hv : ∀ b, v.ownBlock = some b → b < m) (hn : n ≤ m) : ∀ b, m ≤ b → Px (Pm P l) v b :=
  fun b hb => ⟨Pm.of hP hl hn b hb, fun e => by have := hv b e; omega⟩
theorem StOn.intox {w X : World} {P : Nat → Prop} {v tv ov : Value} {s : Sx} {l : List Nat} (h : StOn w (Px P v) tv ov s) (hb : Below w.heap.size w X) (hl : ∀ x ∈ l, w.heap.size ≤ x) : StOn X (Px (Pm P l) v) tv ov s :=
  h.kept hb.size (fun b hlt hp => ⟨hb.block b hlt, ⟨hp.1, fun hm => by have := hl b hm; omega⟩, hp.2⟩)
theorem KOn.intox {w X : World} {P : Nat → Prop} {v kv : Value} {k : Fo} {l : List Nat} (h : KOn w (Px P v) kv k) (hb : Below w.heap.size w X) (hl : ∀ x ∈ l, w.heap.size ≤ x) : KOn X (Px (Pm P l) v) kv k :=
  h.kept hb.size (fun b hlt hp => ⟨hb.block b hlt, ⟨hp.1, fun hm => by have := hl b hm; omega⟩, hp.2⟩)
theorem NdP.into {w X : World} {P : Nat → Prop} {B : Nat} {v : Value} {l : List Nv} {ls : List Nat} (h : NdP w B P v l) (hb : Below w.heap.size w X) (hl : ∀ x ∈ ls, w.heap.size ≤ x) : NdP X B (Pm P ls) v l :=
  (h.less (P' := Pm P ls) (fun b hlt hp => ⟨hp, fun hm => by have := hl b hm; omega⟩)).below hb (Nat.le_refl _)
theorem foL_push (l : List Nv) (x : Rd) (v : Value) : foL (l ++ [⟨x.h, x.k, v⟩]) = pushF (foL l) x := foL_app l [⟨x.h, x.k, v⟩]
theorem four_fr {W : World} {B : Nat} {tv ov : Value} {a wt : Int} (q : Lies W B (stB tv a ov wt)) : W.frozen? ⟨B, 0, none⟩ = false ∧ W.frozen? ⟨B, 1, none⟩ = false ∧ W.frozen? ⟨B, 2, none⟩ = false ∧ W.frozen? ⟨B, 3, none⟩ = false := ⟨q.free 0, q.free 1, q.free 2, q.free 3⟩
theorem set4_lies {W : World} {B : Nat} {tv ov : Value} {a wt : Int} (q : Lies W B (stB tv a ov wt)) (tv' ov' : Value) (a' wt' : Int) : Lies (Lay.set4 W B tv' (.int .i64 a') ov' (.int .i64 wt')) B (stB tv' a' ov' wt') :=
  Lies.put (Lies.put (Lies.put (Lies.put q 0 _) 1 _) 2 _) 3 _
theorem set4_keep {W : World} {B k : Nat} (h : k ≠ B) (x y p q : Value) : (Lay.set4 W B x y p q).heap[k]? = W.heap[k]? := by
  unfold Lay.set4
  rw [Below.heap_setCell _ _ _ _ h, Below.heap_setCell _ _ _ _ h, Below.heap_setCell _ _ _ _ h, Below.heap_setCell _ _ _ _ h]
theorem set4_size {W : World} {B : Nat} (x y p q : Value) : (Lay.set4 W B x y p q).heap.size = W.heap.size := by
  unfold Lay.set4
  rw [World.size_setCell, World.size_setCell, World.size_setCell, World.size_setCell]
theorem set4_below {n B : Nat} {W W1 : World} (h : Below n W W1) (hB : n ≤ B) (x y p q : Value) : Below n W (Lay.set4 W1 B x y p q) :=
  (((h.setCell (p := ⟨B, 0, none⟩) hB x).setCell (p := ⟨B, 1, none⟩) hB y).setCell (p := ⟨B, 2, none⟩) hB p).setCell (p := ⟨B, 3, none⟩) hB q
theorem StOn.into {w X : World} {P : Nat → Prop} {tv ov : Value} {s : Sx} {l : List Nat} (h : StOn w P tv ov s) (hb : Below w.heap.size w X) (hl : ∀ x ∈ l, w.heap.size ≤ x) : StOn X (Pm P l) tv ov s :=
  h.kept hb.size (fun b hlt hp => ⟨hb.block b hlt, hp, fun hm => by have := hl b hm; omega⟩)
theorem KOn.into {w X : World} {P : Nat → Prop} {v : Value} {k : Fo} {l : List Nat} (h : KOn w P v k) (hb : Below w.heap.size w X) (hl : ∀ x ∈ l, w.heap.size ≤ x) : KOn X (Pm P l) v k :=
  h.kept hb.size (fun b hlt hp => ⟨hb.block b hlt, hp, fun hm => by have := hl b hm; omega⟩)
theorem eleven {W : World} {B : Nat} {h : Hd} {kv tv ov : Value} {a wt e : Int} (q : Lies W B (rdO h kv tv a ov wt e)) :
    W.cell? ⟨B, 0, none⟩ = some (.int .i64 h.kind) ∧ W.cell? ⟨B, 1, none⟩ = some (.int .i64 h.form) ∧ W.cell? ⟨B, 2, none⟩ = some (.string h.text) ∧ W.cell? ⟨B, 3, none⟩ = some (.int .i64 h.line) ∧ W.cell? ⟨B, 4, none⟩ = some (.int .i64 h.col) ∧ W.cell? ⟨B, 5, none⟩ = some kv ∧ W.cell? ⟨B, 6, none⟩ = some tv ∧ W.cell? ⟨B, 7, none⟩ = some (.int .i64 a) ∧ W.cell? ⟨B, 8, none⟩ = some ov ∧ W.cell? ⟨B, 9, none⟩ = some (.int .i64 wt) ∧ W.cell? ⟨B, 10, none⟩ = some (.int .i64 e) :=
  ⟨(Lies.cell q 0).trans rfl, (Lies.cell q 1).trans rfl, (Lies.cell q 2).trans rfl, (Lies.cell q 3).trans rfl, (Lies.cell q 4).trans rfl, (Lies.cell q 5).trans rfl, (Lies.cell q 6).trans rfl, (Lies.cell q 7).trans rfl, (Lies.cell q 8).trans rfl, (Lies.cell q 9).trans rfl, (Lies.cell q 10).trans rfl⟩
set_option maxHeartbeats 1000000 in
theorem res_rd {fn : Func} {c : Tmp} (hf : fn.results = #[.cell c 36]) {tmps : Array Value} {w : World} {B : Nat} {h : Hd} {ka ta oa : Option Addr} {kn kc tn tc on oc : Nat} {a wt e : Int} (hc : tmps.getD c undef = .pointer (some ⟨B, 0, none⟩)) (hl : Lies w B (rdO h (.slice ka kn kc) (.slice ta tn tc) a (.slice oa on oc) wt e)) :
    (results fn tmps).run Try.prog w = .ok (rdV h (.slice ka kn kc) (.slice ta tn tc) a (.slice oa on oc) wt e) w := by
  obtain ⟨k0, k1, k2, k3, k4, k5, k6, k7, k8, k9, k10⟩ := eleven hl
  have hc2 : tmps[c]?.getD undef = .pointer (some ⟨B, 0, none⟩) := by
    rw [← Array.getD_eq_getD_getElem?]
    exact hc
  unfold rdV
  simp [results, hf, hc2, go_sem, k0, k1, k2, k3, k4, k5, k6, k7, k8, k9, k10]
def set11 (W : World) (B : Nat) (h : Hd) (kv tv : Value) (a : Int) (ov : Value) (wt e : Int) : World :=
  ((((((((((W.setCell ⟨B, 0, none⟩ (.int .i64 h.kind)).setCell ⟨B, 1, none⟩ (.int .i64 h.form)).setCell ⟨B, 2, none⟩ (.string h.text)).setCell ⟨B, 3, none⟩ (.int .i64 h.line)).setCell ⟨B, 4, none⟩ (.int .i64 h.col)).setCell ⟨B, 5, none⟩ kv).setCell ⟨B, 6, none⟩ tv).setCell ⟨B, 7, none⟩ (.int .i64 a)).setCell ⟨B, 8, none⟩ ov).setCell ⟨B, 9, none⟩ (.int .i64 wt)).setCell ⟨B, 10, none⟩ (.int .i64 e)
set_option maxHeartbeats 4000000 in
theorem set11_lies {W : World} {B : Nat} {h : Hd} {kv tv ov : Value} {a wt e : Int} (q : Lies W B (rdO h kv tv a ov wt e)) (h' : Hd) (kv' tv' : Value) (a' : Int) (ov' : Value) (wt' e' : Int) : Lies (set11 W B h' kv' tv' a' ov' wt' e') B (rdO h' kv' tv' a' ov' wt' e') := by
  unfold rdO at q
  have q := Lies.put q 0 (.int .i64 h'.kind)
  have q := Lies.put q 1 (.int .i64 h'.form)
  have q := Lies.put q 2 (.string h'.text)
  have q := Lies.put q 3 (.int .i64 h'.line)
  have q := Lies.put q 4 (.int .i64 h'.col)
  have q := Lies.put q 5 kv'
  have q := Lies.put q 6 tv'
  have q := Lies.put q 7 (.int .i64 a')
  have q := Lies.put q 8 ov'
  have q := Lies.put q 9 (.int .i64 wt')
  have q := Lies.put q 10 (.int .i64 e')
  simp only [List.setIfInBounds_toArray, List.set_cons_zero, List.set_cons_succ] at q
  exact q
theorem set11_below {n B : Nat} {W W1 : World} (q : Below n W W1) (hB : n ≤ B) (h : Hd) (kv tv : Value) (a : Int) (ov : Value) (wt e : Int) : Below n W (set11 W1 B h kv tv a ov wt e) :=
  ((((((((((q.setCell (p := ⟨B, 0, none⟩) hB _).setCell (p := ⟨B, 1, none⟩) hB _).setCell (p := ⟨B, 2, none⟩) hB _).setCell (p := ⟨B, 3, none⟩) hB _).setCell (p := ⟨B, 4, none⟩) hB _).setCell (p := ⟨B, 5, none⟩) hB _).setCell (p := ⟨B, 6, none⟩) hB _).setCell (p := ⟨B, 7, none⟩) hB _).setCell (p := ⟨B, 8, none⟩) hB _).setCell (p := ⟨B, 9, none⟩) hB _).setCell (p := ⟨B, 10, none⟩) hB _
theorem set11_size (W : World) (B : Nat) (h : Hd) (kv tv : Value) (a : Int) (ov : Value) (wt e : Int) : (set11 W B h kv tv a ov wt e).heap.size = W.heap.size := by
  unfold set11
  simp only [World.size_setCell]
theorem set11_keep (W : World) {B k : Nat} (hk : k ≠ B) (h : Hd) (kv tv : Value) (a : Int) (ov : Value) (wt e : Int) : (set11 W B h kv tv a ov wt e).heap[k]? = W.heap[k]? := by
  unfold set11
  rw [heap_set hk, heap_set hk, heap_set hk, heap_set hk, heap_set hk, heap_set hk, heap_set hk, heap_set hk, heap_set hk, heap_set hk, heap_set hk]
theorem free11 {W : World} {B : Nat} {h : Hd} {kv tv ov : Value} {a wt e : Int} (q : Lies W B (rdO h kv tv a ov wt e)) : W.frozen? ⟨B, 0, none⟩ = false ∧ W.frozen? ⟨B, 1, none⟩ = false ∧ W.frozen? ⟨B, 2, none⟩ = false ∧ W.frozen? ⟨B, 3, none⟩ = false ∧ W.frozen? ⟨B, 4, none⟩ = false ∧ W.frozen? ⟨B, 5, none⟩ = false ∧ W.frozen? ⟨B, 6, none⟩ = false ∧ W.frozen? ⟨B, 7, none⟩ = false ∧ W.frozen? ⟨B, 8, none⟩ = false ∧ W.frozen? ⟨B, 9, none⟩ = false ∧ W.frozen? ⟨B, 10, none⟩ = false :=
  ⟨q.free 0, q.free 1, q.free 2, q.free 3, q.free 4, q.free 5, q.free 6, q.free 7, q.free 8, q.free 9, q.free 10⟩
set_option maxRecDepth 1000000 in
set_option maxHeartbeats 4000000 in
theorem starts_any (t : Tk) (w : World) : Calls Try.prog 52 #[tkV9 t] w fun e w' => e = .returned (.bool (startsB t)) ∧ Below w.heap.size w w' := by
  obtain ⟨r, hr⟩ : ∃ r, startsB t = r := ⟨_, rfl⟩
  have HR := Lib.hid hr
  rw [hr]
  clear hr
  unfold tkV9
  go_enter Try.func52, Try.ntmps52
  go_upto_region 1 with fail
  refine gen_world (fun X => Below w.heap.size w X ∧ Lies X w.heap.size (tkB t)) ⟨below_one w _, Lies.new w _⟩ ?_
  rintro X ⟨bX, lX⟩
  obtain ⟨a0, a1, a2, a3⟩ := four_tk lX
  have BX := Lib.hid bX
  clear bX lX
  have L1 : ∀ b : Bool, (t.text.data.toList == [40]) = b → (t.text.toList == [40]) = b := fun b h => by rw [Lib.toList_data]; exact h
  have L2 : ∀ b : Bool, (t.text.data.toList == [91]) = b → (t.text.toList == [91]) = b := fun b h => by rw [Lib.toList_data]; exact h
  cases x0 : (t.kind == 2) with
  | true =>
    clear L1 L2
    go_wp2_with fail
    go_ret
    exact ⟨by rw [← HR.out]; unfold startsB; rw [x0]; rfl, BX.out⟩
  | false =>
    cases x1 : (t.kind == 4) with
    | true =>
      clear L1 L2
      go_wp2_with fail
      go_ret
      exact ⟨by rw [← HR.out]; unfold startsB; rw [x0, x1]; rfl, BX.out⟩
    | false =>
      cases x2 : (t.kind == 1) with
      | true =>
        clear L1 L2
        go_wp2_with fail
        go_ret
        exact ⟨by rw [← HR.out]; unfold startsB; rw [x0, x1, x2]; rfl, BX.out⟩
      | false =>
        cases x3 : (t.kind == 15) with
        | false =>
          clear L1 L2
          go_wp2_with fail
          go_ret
          exact ⟨by rw [← HR.out]; unfold startsB; rw [x0, x1, x2, x3]; rfl, BX.out⟩
        | true =>
          cases z1 : (t.text.data.toList == [40]) with
          | true =>
            have y1 := L1 _ z1
            clear L1 L2
            go_wp2_with fail
            go_ret
            exact ⟨by rw [← HR.out]; unfold startsB; rw [x0, x1, x2, x3, z1]; rfl, BX.out⟩
          | false =>
            have y1 := L1 _ z1
            cases z2 : (t.text.data.toList == [91]) with
            | true =>
              have y2 := L2 _ z2
              clear L1 L2
              go_wp2_with fail
              go_ret
              exact ⟨by rw [← HR.out]; unfold startsB; rw [x0, x1, x2, x3, z1, z2]; rfl, BX.out⟩
            | false =>
              have y2 := L2 _ z2
              clear L1 L2
              go_wp2_with fail
              go_ret
              exact ⟨by rw [← HR.out]; unfold startsB; rw [x0, x1, x2, x3, z1, z2]; rfl, BX.out⟩
theorem set11_other {W : World} {B k : Nat} {o : Obj} (q : Lies W k o) (hk : k ≠ B) (h : Hd) (kv tv : Value) (a : Int) (ov : Value) (wt e : Int) : Lies (set11 W B h kv tv a ov wt e) k o := (set11_keep W hk h kv tv a ov wt e).trans q
theorem NdP.set11 {W : World} {C : Nat} {P : Nat → Prop} {u : Value} {l : List Nv} {B : Nat} (q : NdP W C P u l) (hS : ∀ b, P b → b ≠ B) (h : Hd) (kv tv : Value) (a : Int) (ov : Value) (wt e : Int) : NdP (set11 W B h kv tv a ov wt e) C P u l :=
  q.kept (by rw [set11_size]; exact Nat.le_refl _) (fun b hb hp => set11_keep W (by
    rcases hp with hp | hp
    · exact hS b (q.own b hp)
    · exact hS b hp.1) ..)
theorem StOn.set11 {W : World} {P : Nat → Prop} {ta oa : Value} {s : Sx} {B : Nat} (q : StOn W P ta oa s) (hS : ∀ b, P b → b ≠ B) (h : Hd) (kv tv : Value) (a : Int) (ov : Value) (wt e : Int) : StOn (set11 W B h kv tv a ov wt e) P ta oa s :=
  q.kept (by rw [set11_size]; exact Nat.le_refl _) (fun b hb hp => ⟨set11_keep W (hS b hp) .., hp⟩)
theorem KOn.set11 {W : World} {P : Nat → Prop} {v : Value} {k : Fo} {B : Nat} (q : KOn W P v k) (hS : ∀ b, P b → b ≠ B) (h : Hd) (kv tv : Value) (a : Int) (ov : Value) (wt e : Int) : KOn (Typ.set11 W B h kv tv a ov wt e) P v k :=
  q.kept (by rw [set11_size]; exact Nat.le_refl _) (fun b hb hp => ⟨set11_keep W (hS b hp) .., hp⟩)
/-- A reading is written into the result's block. -/
theorem rd_done {w Z : World} {P P' : Nat → Prop} {n R : Nat} {x : Rd} {ka ta oa : Option Addr} {kc tc oc : Nat} (hb : Below n w Z) (hR : n ≤ R) (hk : KOn Z P' (.slice ka (len x.k) kc) x.k) (hs : StOn Z P' (.slice ta x.s.toks.length tc) (.slice oa x.s.opn.length oc) x.s) (hp : ∀ b, b < Z.heap.size → P' b → P b ∧ b ≠ R) :
    RdOut x P n w (.returned (rdV x.h (.slice ka (len x.k) kc) (.slice ta x.s.toks.length tc) x.s.at_ (.slice oa x.s.opn.length oc) x.s.wait x.e)) (set11 Z R x.h (.slice ka (len x.k) kc) (.slice ta x.s.toks.length tc) x.s.at_ (.slice oa x.s.opn.length oc) x.s.wait x.e) :=
  have hs1 : Z.heap.size ≤ (set11 Z R x.h (.slice ka (len x.k) kc) (.slice ta x.s.toks.length tc) x.s.at_ (.slice oa x.s.opn.length oc) x.s.wait x.e).heap.size := by
    rw [set11_size]
    exact Nat.le_refl _
  ⟨ka, kc, ta, tc, oa, oc, rfl, hk.kept hs1 (fun b hlt q => ⟨set11_keep Z (hp b hlt q).2 .., (hp b hlt q).1⟩), hs.kept hs1 (fun b hlt q => ⟨set11_keep Z (hp b hlt q).2 .., (hp b hlt q).1⟩), set11_below hb hR ..⟩
theorem Mv.set11 {a b : World} {u v : Value} (m : Mv a b u v) {B : Nat} (hB : a.heap.size ≤ B) (h : Hd) (kv tv : Value) (i : Int) (ov : Value) (wt e : Int) : Mv a (set11 b B h kv tv i ov wt e) u v :=
  ((((((((((m.set (p := ⟨B, 0, none⟩) hB _).set (p := ⟨B, 1, none⟩) hB _).set (p := ⟨B, 2, none⟩) hB _).set (p := ⟨B, 3, none⟩) hB _).set (p := ⟨B, 4, none⟩) hB _).set (p := ⟨B, 5, none⟩) hB _).set (p := ⟨B, 6, none⟩) hB _).set (p := ⟨B, 7, none⟩) hB _).set (p := ⟨B, 8, none⟩) hB _).set (p := ⟨B, 9, none⟩) hB _).set (p := ⟨B, 10, none⟩) hB _
theorem rdg_done {w Z : World} {P P' : Nat → Prop} {R : Nat} {x : Rd} {ka ta oa : Option Addr} {kc tc oc : Nat} {u v : Value} (hb : Mv w Z u v) (hR : w.heap.size ≤ R) (hk : KOn Z P' (.slice ka (len x.k) kc) x.k) (hs : StOn Z P' (.slice ta x.s.toks.length tc) (.slice oa x.s.opn.length oc) x.s) (hp : ∀ b, b < Z.heap.size → P' b → P b ∧ b ≠ R) :
    RdOutG x P u.ownBlock w (.returned (rdV x.h (.slice ka (len x.k) kc) (.slice ta x.s.toks.length tc) x.s.at_ (.slice oa x.s.opn.length oc) x.s.wait x.e)) (set11 Z R x.h (.slice ka (len x.k) kc) (.slice ta x.s.toks.length tc) x.s.at_ (.slice oa x.s.opn.length oc) x.s.wait x.e) :=
  have hs1 : Z.heap.size ≤ (set11 Z R x.h (.slice ka (len x.k) kc) (.slice ta x.s.toks.length tc) x.s.at_ (.slice oa x.s.opn.length oc) x.s.wait x.e).heap.size := by
    rw [set11_size]
    exact Nat.le_refl _
  ⟨ka, kc, ta, tc, oa, oc, rfl, hk.kept hs1 (fun b hlt q => ⟨set11_keep Z (hp b hlt q).2 .., (hp b hlt q).1⟩), hs.kept hs1 (fun b hlt q => ⟨set11_keep Z (hp b hlt q).2 .., (hp b hlt q).1⟩), (hb.set11 hR ..).grown⟩
theorem there11 {W : World} {B : Nat} {h : Hd} {kv tv ov : Value} {a wt e : Int} (q : Lies W B (rdO h kv tv a ov wt e)) : W.there B 0 11 := by
  intro j hj
  rw [Nat.zero_add]
  refine ⟨?_, q.free j⟩
  rw [Lies.cell q j, Array.getElem?_eq_getElem (by show j < 11; exact hj)]
  rfl
theorem info11 : (Try.prog.info? 36).map (·.size) = some 11 := by kernel_rfl
def vals11 (h : Hd) (kv tv : Value) (a : Int) (ov : Value) (wt e : Int) : Array Value := #[.int .i64 h.kind, .int .i64 h.form, .string h.text, .int .i64 h.line, .int .i64 h.col, kv, tv, .int .i64 a, ov, .int .i64 wt, .int .i64 e]
end Go.Proofs.Ytmgclgojmckfhaa.Typ
/-
  The document's Take, Bad, Is, Peek over states. Conditions: what the document's Next does, and sizes that are borne.
-/
namespace Go.Proofs.Ytmgclgojmckfhaa.Typ
open Tks Tre Go.RowKit
open Lay (Sx StV Fit9 nextS NextOut tkV9 IntArg)
set_option linter.unusedSimpArgs false
set_option linter.unusedVariables false

/-- What a function of a state answers. -/
def DocC (f : FuncId) (N : Nat) (x : Sx → Rd) : Prop := ∀ (P : Nat → Prop) (tv ov : Value) (s : Sx) (W : World), StOn W P tv ov s → Fits N s → (∀ b, W.heap.size ≤ b → P b) →
  Calls Try.prog f #[stV tv s.at_ ov s.wait] W (RdOut (x s) P W.heap.size W)
def kRd : Obj := rdO zeroN (.slice none 0 0) (.slice none 0 0) 0 (.slice none 0 0) 0 0
theorem two_size (w : World) (o1 o2 : Obj) : ((w.alloc o1).alloc o2).heap.size = w.heap.size + 2 := by
  rw [World.size_alloc, World.size_alloc]
set_option maxRecDepth 1000000 in
set_option maxHeartbeats 4000000 in
theorem take_any {N : Nat} (hN : N ≤ 1099511627776) (R : NextOn 59) : DocC 39 N takeR := by
  intro P tv ov s w hs hf hP
  obtain ⟨ta, tc, oa, oc, rfl, rfl⟩ := hs.len
  have HR : Hid ((takeR s) = if er s = 0 then ⟨leafH (tk s), .nil, nx s, 0⟩ else errR s (er s)) := rfl
  have CN := Lib.hid (fun Q W h h2 => R Q (.slice ta s.toks.length tc) (.slice oa s.opn.length oc) s W h (hf.nine hN) h2)
  unfold stV tkV9 at CN
  unfold stV
  have HS := Lib.hid hs
  have HP := Lib.hid hP
  generalize takeR s = x at *
  generalize tk s = t at *
  generalize nx s = s2 at *
  generalize er s = er2 at *
  clear hs hf hP R
  go_enter Try.func39, Try.ntmps39
  go_upto_region 1 with fail
  refine gen_world (fun X => Below w.heap.size w X ∧ Lies X w.heap.size (stB (.slice ta s.toks.length tc) s.at_ (.slice oa s.opn.length oc) s.wait) ∧ Lies X (w.heap.size + 1) kRd) ⟨below_two' w _ _, (two_lie w _ _).1, (two_lie w _ _).2⟩ ?_
  rintro X ⟨bX, lX, rX⟩
  have hr2 := rX.lt
  have OX := HS.out.into (l := [w.heap.size, w.heap.size + 1]) bX (by simp)
  have CX := Lib.hid (CN.out (Pm P [w.heap.size, w.heap.size + 1]) X OX (Pm.of HP.out (by simp; omega) bX.size))
  have nR : Hid (w.heap.size < w.heap.size + 1) := Nat.lt_succ_self _
  generalize w.heap.size + 1 = R2 at *
  obtain ⟨a0, a1, a2, a3⟩ := four_st lX
  have BX := Lib.hid bX
  have LX := Lib.hid lX
  have RX := Lib.hid rX
  have OX := Lib.hid OX
  clear bX lX rX CN HS hr2
  go_upto_region 2 with (first
    | (go_at_call 59; refine CX.out.mono ?_; rintro e w1 ⟨tv2, ov2, rfl, st2, b1⟩; obtain ⟨ta2, tc2, oa2, oc2, rfl, rfl⟩ := st2.len; have B1 := Lib.hid b1; have T2 := Lib.hid st2; clear b1 st2))
  refine gen_world (fun Z => Below X.heap.size X Z ∧ Lies Z w1.heap.size (tkB t) ∧ Lies Z (w1.heap.size + 1) (stB (.slice ta2 s2.toks.length tc2) s2.at_ (.slice oa2 s2.opn.length oc2) s2.wait) ∧ StOn Z (Pm P [w.heap.size, R2]) (.slice ta2 s2.toks.length tc2) (.slice oa2 s2.opn.length oc2) s2) ⟨afterL B1.out (below_two' w1 _ _), (two_lie w1 _ _).1, (two_lie w1 _ _).2, T2.out.below (below_two' w1 _ _) (Nat.le_refl _)⟩ ?_
  rintro Z ⟨bZ, tZ, sZ, gZ⟩
  have LZ := LX.out.below bZ LX.out.lt
  have RZ := RX.out.below bZ RX.out.lt
  have OZ := OX.out.below bZ (Nat.le_refl _)
  have BZ := Lib.hid (afterL BX.out bZ)
  have S1 := B1.out.size
  have S2 := RX.out.lt
  have H3 : Hid (R2 < w1.heap.size) := by unfold Hid; omega
  generalize hM : w1.heap.size = M at *
  clear a0 a1 a2 a3
  obtain ⟨a0, a1, a2, a3⟩ := four_st LZ
  obtain ⟨b0, b1, b2, b3⟩ := four_tk tZ
  obtain ⟨d0, d1, d2, d3⟩ := four_st sZ
  unfold kRd at RZ
  obtain ⟨f0, f1, f2, f3, f4, f5, f6, f7, f8, f9, f10⟩ := free11 RZ
  obtain ⟨e0, e1, e2, e3, e4, e5, e6, e7, e8, e9, e10⟩ := eleven RZ
  dsimp only [zeroN] at e0 e1 e2 e3 e4
  have RZ := Lib.hid RZ
  have GZ := Lib.hid gZ
  have OZ := Lib.hid OZ
  clear LZ bZ tZ sZ gZ S1 S2 hM T2
  by_cases h0 : er2 = 0
  · have x0 : (er2 == 0) = true := beq_iff_eq.2 h0
    have x1 : (er2 != 0) = false := by rw [bne, x0]; rfl
    have HX : Hid (x = ⟨leafH t, .nil, s2, 0⟩) := by rw [HR.out, if_pos h0]; rfl
    clear h0 HR
    go_wp2_with fail
    refine bodyPost_ret (res_rd Try.results39 rfl (set11_lies RZ.out (leafH t) (.slice none 0 0) (.slice ta2 s2.toks.length tc2) s2.at_ (.slice oa2 s2.opn.length oc2) s2.wait 0)) rfl ?_
    rw [HX.out]
    exact rd_done (x := ⟨leafH t, .nil, s2, 0⟩) BZ.out (Nat.le_of_lt nR.out) (KOn.nil ..) GZ.out (fun b hb q => ⟨q.1, fun e => q.2 (by rw [e]; simp)⟩)
  · have x0 : (er2 == 0) = false := beq_eq_false_iff_ne.2 h0
    have x1 : (er2 != 0) = true := by rw [bne, x0]; rfl
    have HX : Hid (x = errR s er2) := by rw [HR.out, if_neg h0]; rfl
    clear h0 HR
    go_wp2_with fail
    refine bodyPost_ret (res_rd Try.results39 rfl (set11_lies RZ.out zeroN (.slice none 0 0) (.slice ta s.toks.length tc) s.at_ (.slice oa s.opn.length oc) s.wait er2)) rfl ?_
    rw [HX.out]
    exact rd_done (x := errR s er2) BZ.out (Nat.le_of_lt nR.out) (KOn.nil ..) OZ.out (fun b hb q => ⟨q.1, fun e => q.2 (by rw [e]; simp)⟩)
end Go.Proofs.Ytmgclgojmckfhaa.Typ
/-
  The document's Bad, Is, Peek over states. Conditions: what the document's Next does, and sizes that are borne.
-/
namespace Go.Proofs.Ytmgclgojmckfhaa.Typ
open Tks Tre Go.RowKit
open Lay (Sx StV Fit9 nextS NextOut tkV9 IntArg)
set_option linter.unusedSimpArgs false
set_option linter.unusedVariables false

set_option maxRecDepth 1000000 in
set_option maxHeartbeats 4000000 in
theorem bad_any {N : Nat} (hN : N ≤ 1099511627776) (R : NextOn 59) : DocC 54 N badR := by
  intro P tv ov s w hs hf hP
  obtain ⟨ta, tc, oa, oc, rfl, rfl⟩ := hs.len
  have HR : Hid (badR s = if er s = 0 then errR s 110 else errR s (er s)) := rfl
  have CN := Lib.hid (fun Q W h h2 => R Q (.slice ta s.toks.length tc) (.slice oa s.opn.length oc) s W h (hf.nine hN) h2)
  unfold stV tkV9 at CN
  unfold stV
  have HS := Lib.hid hs
  have HP := Lib.hid hP
  generalize badR s = x at *
  generalize tk s = t at *
  generalize nx s = s2 at *
  generalize er s = er2 at *
  clear hs hf hP R
  go_enter Try.func54, Try.ntmps54
  go_upto_region 1 with fail
  refine gen_world (fun X => Below w.heap.size w X ∧ Lies X w.heap.size (stB (.slice ta s.toks.length tc) s.at_ (.slice oa s.opn.length oc) s.wait) ∧ Lies X (w.heap.size + 1) kRd) ⟨below_two' w _ _, (two_lie w _ _).1, (two_lie w _ _).2⟩ ?_
  rintro X ⟨bX, lX, rX⟩
  have hr2 := rX.lt
  have OX := HS.out.into (l := [w.heap.size, w.heap.size + 1]) bX (by simp)
  have CX := Lib.hid (CN.out (Pm P [w.heap.size, w.heap.size + 1]) X OX (Pm.of HP.out (by simp; omega) bX.size))
  have nR : Hid (w.heap.size < w.heap.size + 1) := Nat.lt_succ_self _
  generalize w.heap.size + 1 = R2 at *
  obtain ⟨a0, a1, a2, a3⟩ := four_st lX
  have BX := Lib.hid bX
  have LX := Lib.hid lX
  have RX := Lib.hid rX
  have OX := Lib.hid OX
  clear bX lX rX CN HS hr2
  go_upto_region 2 with (first
    | (go_at_call 59; refine CX.out.mono ?_; rintro e w1 ⟨tv2, ov2, rfl, st2, b1⟩; obtain ⟨ta2, tc2, oa2, oc2, rfl, rfl⟩ := st2.len; have B1 := Lib.hid b1; have T2 := Lib.hid st2; clear b1 st2))
  refine gen_world (fun Z => Below X.heap.size X Z ∧ X.heap.size ≤ w1.heap.size) ⟨afterL B1.out (below_two' w1 _ _), B1.out.size⟩ ?_
  rintro Z ⟨bZ, H3⟩
  have LZ := LX.out.below bZ LX.out.lt
  have RZ := RX.out.below bZ RX.out.lt
  have OZ := OX.out.below bZ (Nat.le_refl _)
  have BZ := Lib.hid (afterL BX.out bZ)
  clear a0 a1 a2 a3
  obtain ⟨a0, a1, a2, a3⟩ := four_st LZ
  unfold kRd at RZ
  obtain ⟨f0, f1, f2, f3, f4, f5, f6, f7, f8, f9, f10⟩ := free11 RZ
  obtain ⟨e0, e1, e2, e3, e4, e5, e6, e7, e8, e9, e10⟩ := eleven RZ
  dsimp only [zeroN] at e0 e1 e2 e3 e4
  have RZ := Lib.hid RZ
  have OZ := Lib.hid OZ
  clear LZ bZ H3 T2
  by_cases h0 : er2 = 0
  · have x0 : (er2 == 0) = true := beq_iff_eq.2 h0
    have x1 : (er2 != 0) = false := by rw [bne, x0]; rfl
    have HX : Hid (x = errR s 110) := by rw [HR.out, if_pos h0]; rfl
    clear h0 HR
    go_wp2_with fail
    refine bodyPost_ret (res_rd Try.results54 rfl (set11_lies RZ.out zeroN (.slice none 0 0) (.slice ta s.toks.length tc) s.at_ (.slice oa s.opn.length oc) s.wait 110)) rfl ?_
    rw [HX.out]
    exact rd_done (x := errR s 110) BZ.out (Nat.le_of_lt nR.out) (KOn.nil ..) OZ.out (fun b hb q => ⟨q.1, fun e => q.2 (by rw [e]; simp)⟩)
  · have x0 : (er2 == 0) = false := beq_eq_false_iff_ne.2 h0
    have x1 : (er2 != 0) = true := by rw [bne, x0]; rfl
    have HX : Hid (x = errR s er2) := by rw [HR.out, if_neg h0]; rfl
    clear h0 HR
    go_wp2_with fail
    refine bodyPost_ret (res_rd Try.results54 rfl (set11_lies RZ.out zeroN (.slice none 0 0) (.slice ta s.toks.length tc) s.at_ (.slice oa s.opn.length oc) s.wait er2)) rfl ?_
    rw [HX.out]
    exact rd_done (x := errR s er2) BZ.out (Nat.le_of_lt nR.out) (KOn.nil ..) OZ.out (fun b hb q => ⟨q.1, fun e => q.2 (by rw [e]; simp)⟩)
theorem res_tk {fn : Func} {c : Tmp} (hf : fn.results = #[.cell c 47]) {tmps : Array Value} {w : World} {B : Nat} {t : Tk} (hc : tmps.getD c undef = .pointer (some ⟨B, 0, none⟩)) (hl : Lies w B (tkB t)) :
    (results fn tmps).run Try.prog w = .ok (tkV9 t) w := by
  obtain ⟨k0, k1, k2, k3⟩ := four_tk hl
  have hc2 : tmps[c]?.getD undef = .pointer (some ⟨B, 0, none⟩) := by
    rw [← Array.getD_eq_getD_getElem?]
    exact hc
  unfold tkV9
  simp [results, hf, hc2, go_sem, k0, k1, k2, k3]
set_option maxRecDepth 1000000 in
set_option maxHeartbeats 4000000 in
theorem is_any {N : Nat} (hN : N ≤ 1099511627776) (R : NextOn 59) (P : Nat → Prop) (tv ov : Value) (s : Sx) (k : Int) (c : ByteArray) (w : World) (hs : StOn w P tv ov s) (hf : Fits N s) :
    Calls Try.prog 38 #[stV tv s.at_ ov s.wait, .int .i64 k, .string c] w fun e w' => e = .returned (.bool (isR s k c.data.toList)) ∧ Below w.heap.size w w' := by
  obtain ⟨ta, tc, oa, oc, rfl, rfl⟩ := hs.len
  obtain ⟨r, hr⟩ : ∃ r, isR s k c.data.toList = r := ⟨_, rfl⟩
  have HR := Lib.hid hr
  rw [hr]
  clear hr
  unfold isR at HR
  rw [← Lib.toList_data, ← Lib.toList_data] at HR
  have CN := Lib.hid (fun W h => R (fun _ => True) (.slice ta s.toks.length tc) (.slice oa s.opn.length oc) s W h (hf.nine hN) (fun _ _ => trivial))
  unfold stV tkV9 at CN
  unfold stV
  have HS := Lib.hid (hs.less (P' := fun _ => True) (fun _ _ _ => trivial))
  generalize tk s = t at *
  generalize nx s = s2 at *
  generalize er s = er2 at *
  clear hs hf R
  go_enter Try.func38, Try.ntmps38
  go_upto_region 1 with fail
  refine gen_world (fun X => Below w.heap.size w X ∧ Lies X w.heap.size (stB (.slice ta s.toks.length tc) s.at_ (.slice oa s.opn.length oc) s.wait)) ⟨below_one w _, Lies.new w _⟩ ?_
  rintro X ⟨bX, lX⟩
  have CX := Lib.hid (CN.out X (HS.out.below bX (Nat.le_refl _)))
  obtain ⟨a0, a1, a2, a3⟩ := four_st lX
  have BX := Lib.hid bX
  clear bX lX CN HS
  go_upto_region 2 with (first
    | (go_at_call 59; refine CX.out.mono ?_; rintro e w1 ⟨tv2, ov2, rfl, st2, b1⟩; obtain ⟨ta2, tc2, oa2, oc2, rfl, rfl⟩ := st2.len; have B1 := Lib.hid b1; clear b1 st2))
  refine gen_world (fun Z => Below w.heap.size w Z ∧ Lies Z w1.heap.size (tkB t)) ⟨afterL BX.out (afterL B1.out (below_two' w1 _ _)), (two_lie w1 _ _).1⟩ ?_
  rintro Z ⟨bZ, tZ⟩
  have BZ := Lib.hid bZ
  obtain ⟨b0, b1, b2, b3⟩ := four_tk tZ
  clear bZ tZ a0 a1 a2 a3
  cases x0 : (er2 == 0) with
  | false =>
    rw [x0] at HR
    have HE : Hid (false = r) := HR.out
    clear HR
    go_wp2_with fail
    go_ret
    exact ⟨by rw [← HE.out]; rfl, BZ.out⟩
  | true =>
    rw [x0] at HR
    cases x1 : (t.kind == k) with
    | false =>
      rw [x1] at HR
      have HE : Hid (false = r) := HR.out
      clear HR
      go_wp2_with fail
      go_ret
      exact ⟨by rw [← HE.out]; rfl, BZ.out⟩
    | true =>
      rw [x1] at HR
      have HE : Hid ((t.text.toList == c.toList) = r) := HR.out
      clear HR
      go_wp2_with fail
      go_ret
      exact ⟨by rw [← HE.out]; rfl, BZ.out⟩
set_option maxRecDepth 1000000 in
set_option maxHeartbeats 4000000 in
theorem peek_any {N : Nat} (hN : N ≤ 1099511627776) (R : NextOn 59) (P : Nat → Prop) (tv ov : Value) (s : Sx) (w : World) (hs : StOn w P tv ov s) (hf : Fits N s) :
    Calls Try.prog 53 #[stV tv s.at_ ov s.wait] w fun e w' => e = .returned (tkV9 (tk s)) ∧ Below w.heap.size w w' := by
  obtain ⟨ta, tc, oa, oc, rfl, rfl⟩ := hs.len
  have CN := Lib.hid (fun W h => R (fun _ => True) (.slice ta s.toks.length tc) (.slice oa s.opn.length oc) s W h (hf.nine hN) (fun _ _ => trivial))
  unfold stV tkV9 at CN
  unfold stV tkV9
  have HS := Lib.hid (hs.less (P' := fun _ => True) (fun _ _ _ => trivial))
  generalize tk s = t at *
  generalize nx s = s2 at *
  generalize er s = er2 at *
  clear hs hf R
  go_enter Try.func53, Try.ntmps53
  go_upto_region 1 with fail
  refine gen_world (fun X => Below w.heap.size w X ∧ Lies X w.heap.size (stB (.slice ta s.toks.length tc) s.at_ (.slice oa s.opn.length oc) s.wait) ∧ Lies X (w.heap.size + 1) (tkB Lay.zeroT)) ⟨below_two' w _ _, (two_lie w _ _).1, (two_lie w _ _).2⟩ ?_
  rintro X ⟨bX, lX, rX⟩
  have CX := Lib.hid (CN.out X (HS.out.below bX (Nat.le_refl _)))
  generalize hR2 : w.heap.size + 1 = R2 at *
  obtain ⟨a0, a1, a2, a3⟩ := four_st lX
  have BX := Lib.hid bX
  have RX := Lib.hid rX
  have nR : Hid (w.heap.size < R2) := by unfold Hid; omega
  clear bX lX CN HS rX hR2
  go_upto_region 2 with (first
    | (go_at_call 59; refine CX.out.mono ?_; rintro e w1 ⟨tv2, ov2, rfl, st2, b1⟩; obtain ⟨ta2, tc2, oa2, oc2, rfl, rfl⟩ := st2.len; have B1 := Lib.hid b1; clear b1 st2))
  have hlt : R2 < w1.heap.size := by
    have := RX.out.lt
    have := B1.out.size
    omega
  have bW := afterL B1.out (below_two' w1 (tkB t) (stB (.slice ta2 s2.toks.length tc2) s2.at_ (.slice oa2 s2.opn.length oc2) s2.wait))
  refine gen_world (fun Z => Below w.heap.size w Z ∧ Lies Z w1.heap.size (tkB t) ∧ Lies Z R2 (tkB Lay.zeroT)) ⟨afterL BX.out bW, (two_lie w1 _ _).1, RX.out.below bW RX.out.lt⟩ ?_
  rintro Z ⟨bZ, tZ, rZ⟩
  have BZ := Lib.hid bZ
  obtain ⟨b0, b1, b2, b3⟩ := four_tk tZ
  obtain ⟨c0, c1, c2, c3⟩ := four_tk rZ
  have f0 := rZ.free 0
  have f1 := rZ.free 1
  have f2 := rZ.free 2
  have f3 := rZ.free 3
  have m1 : ¬ w1.heap.size = R2 := by omega
  have m2 : ¬ R2 = w1.heap.size := by omega
  clear bW
  have RZ := Lib.hid rZ
  clear bZ tZ a0 a1 a2 a3 rZ hlt
  dsimp only [Lay.zeroT] at c0 c1 c2 c3
  go_wp2_with fail
  refine bodyPost_ret (res_tk (t := t) Try.results53 rfl (Lies.put (Lies.put (Lies.put (Lies.put RZ.out 0 _) 1 _) 2 _) 3 _)) rfl ?_
  exact ⟨rfl, ((((BZ.out.setCell (p := ⟨R2, 0, none⟩) (Nat.le_of_lt nR.out) _).setCell (p := ⟨R2, 1, none⟩) (Nat.le_of_lt nR.out) _).setCell (p := ⟨R2, 2, none⟩) (Nat.le_of_lt nR.out) _).setCell (p := ⟨R2, 3, none⟩) (Nat.le_of_lt nR.out) _)⟩
end Go.Proofs.Ytmgclgojmckfhaa.Typ
/-
  The document's Want over states; what reads next. Conditions: what the document's Next does, and sizes that are borne.
-/
namespace Go.Proofs.Ytmgclgojmckfhaa.Typ
open Tks Tre Go.RowKit
open Lay (Sx StV Fit9 nextS NextOut tkV9 IntArg)
set_option linter.unusedSimpArgs false
set_option linter.unusedVariables false

set_option maxRecDepth 1000000 in
set_option maxHeartbeats 4000000 in
theorem want_any {N : Nat} (hN : N ≤ 1099511627776) (R : NextOn 59) (P : Nat → Prop) (tv ov : Value) (s : Sx) (k : Int) (c : ByteArray) (w : World) (hs : StOn w P tv ov s) (hf : Fits N s) (hP : ∀ b, w.heap.size ≤ b → P b) :
    Calls Try.prog 56 #[stV tv s.at_ ov s.wait, .int .i64 k, .string c] w (RdOut (wantR s k c.data.toList) P w.heap.size w) := by
  obtain ⟨ta, tc, oa, oc, rfl, rfl⟩ := hs.len
  have CI := Lib.hid (fun Q W h => is_any hN R Q (.slice ta s.toks.length tc) (.slice oa s.opn.length oc) s k c W h hf)
  have CT := Lib.hid (fun Q W h h2 => take_any hN R Q (.slice ta s.toks.length tc) (.slice oa s.opn.length oc) s W h hf h2)
  have CB := Lib.hid (fun Q W h h2 => bad_any hN R Q (.slice ta s.toks.length tc) (.slice oa s.opn.length oc) s W h hf h2)
  unfold RdOut rdV at CT CB
  unfold stV at CI CT CB
  unfold stV
  have HW : Hid (wantR s k c.data.toList = if isR s k c.data.toList = true then takeR s else badR s) := rfl
  have HS := Lib.hid hs
  have HP := Lib.hid hP
  generalize wantR s k c.data.toList = x at *
  generalize isR s k c.data.toList = i at *
  generalize takeR s = y at *
  generalize badR s = z at *
  clear hs hf hP R
  go_enter Try.func56, Try.ntmps56
  go_upto_region 1 with fail
  refine gen_world (fun X => Below w.heap.size w X ∧ Lies X w.heap.size (stB (.slice ta s.toks.length tc) s.at_ (.slice oa s.opn.length oc) s.wait) ∧ Lies X (w.heap.size + 1) kRd) ⟨below_two' w _ _, (two_lie w _ _).1, (two_lie w _ _).2⟩ ?_
  rintro X ⟨bX, lX, rX⟩
  have hr2 := rX.lt
  have OX := HS.out.into (l := [w.heap.size, w.heap.size + 1]) bX (by simp)
  have PX := Pm.of (l := [w.heap.size, w.heap.size + 1]) HP.out (by simp; omega) bX.size
  have nR : Hid (w.heap.size < w.heap.size + 1) := Nat.lt_succ_self _
  generalize w.heap.size + 1 = R2 at *
  have IX := Lib.hid (CI.out _ X OX)
  have TX := Lib.hid (fun W (h : Below X.heap.size X W) => CT.out _ W (OX.below h (Nat.le_refl _)) (fun b hb => PX b (Nat.le_trans h.size hb)))
  have BX2 := Lib.hid (fun W (h : Below X.heap.size X W) => CB.out _ W (OX.below h (Nat.le_refl _)) (fun b hb => PX b (Nat.le_trans h.size hb)))
  obtain ⟨a0, a1, a2, a3⟩ := four_st lX
  have BX := Lib.hid bX
  have LX := Lib.hid lX
  have RX := Lib.hid rX
  clear bX lX rX CI CT CB HS hr2 OX PX
  cases i with
  | false =>
    have HX : Hid (x = z) := HW.out
    clear HW TX
    go_wp2_with (first
      | (go_at_call 38; refine IX.out.mono ?_; rintro e w1 ⟨rfl, b1⟩; have B1 := Lib.hid b1; have L1 := LX.out.below b1 LX.out.lt; clear b1 a0 a1 a2 a3; obtain ⟨a0, a1, a2, a3⟩ := four_st L1; clear L1)
      | (go_at_call 54; refine (BX2.out _ B1.out).mono ?_; rintro e w2 ⟨ka2, kc2, ta2, tc2, oa2, oc2, rfl, k2, s2, b2⟩; have B2 := Lib.hid (afterL B1.out b2); have K2 := Lib.hid k2; have S2 := Lib.hid s2; have R2' := RX.out.below B2.out RX.out.lt; clear b2 k2 s2; unfold kRd at R2'; obtain ⟨f0, f1, f2, f3, f4, f5, f6, f7, f8, f9, f10⟩ := free11 R2'; obtain ⟨e0, e1, e2, e3, e4, e5, e6, e7, e8, e9, e10⟩ := eleven R2'; dsimp only [zeroN] at e0 e1 e2 e3 e4; have RZ := Lib.hid R2'; clear R2'))
    refine bodyPost_ret (res_rd Try.results56 rfl (set11_lies RZ.out z.h (.slice ka2 (len z.k) kc2) (.slice ta2 z.s.toks.length tc2) z.s.at_ (.slice oa2 z.s.opn.length oc2) z.s.wait z.e)) rfl ?_
    rw [HX.out]
    exact rd_done (afterL BX.out B2.out) (Nat.le_of_lt nR.out) K2.out S2.out (fun b hb q => ⟨q.1, fun e => q.2 (by rw [e]; simp)⟩)
  | true =>
    have HX : Hid (x = y) := HW.out
    clear HW BX2
    go_wp2_with (first
      | (go_at_call 38; refine IX.out.mono ?_; rintro e w1 ⟨rfl, b1⟩; have B1 := Lib.hid b1; have L1 := LX.out.below b1 LX.out.lt; clear b1 a0 a1 a2 a3; obtain ⟨a0, a1, a2, a3⟩ := four_st L1; clear L1)
      | (go_at_call 39; refine (TX.out _ B1.out).mono ?_; rintro e w2 ⟨ka2, kc2, ta2, tc2, oa2, oc2, rfl, k2, s2, b2⟩; have B2 := Lib.hid (afterL B1.out b2); have K2 := Lib.hid k2; have S2 := Lib.hid s2; have R2' := RX.out.below B2.out RX.out.lt; clear b2 k2 s2; unfold kRd at R2'; obtain ⟨f0, f1, f2, f3, f4, f5, f6, f7, f8, f9, f10⟩ := free11 R2'; obtain ⟨e0, e1, e2, e3, e4, e5, e6, e7, e8, e9, e10⟩ := eleven R2'; dsimp only [zeroN] at e0 e1 e2 e3 e4; have RZ := Lib.hid R2'; clear R2'))
    refine bodyPost_ret (res_rd Try.results56 rfl (set11_lies RZ.out y.h (.slice ka2 (len y.k) kc2) (.slice ta2 y.s.toks.length tc2) y.s.at_ (.slice oa2 y.s.opn.length oc2) y.s.wait y.e)) rfl ?_
    rw [HX.out]
    exact rd_done (afterL BX.out B2.out) (Nat.le_of_lt nR.out) K2.out S2.out (fun b hb q => ⟨q.1, fun e => q.2 (by rw [e]; simp)⟩)
end Go.Proofs.Ytmgclgojmckfhaa.Typ
/-
  The document's Commas0: a Head that ends here. Conditions: what the document's Next does, and sizes that are borne.
-/
namespace Go.Proofs.Ytmgclgojmckfhaa.Typ
open Tks Tre Go.RowKit
open Lay (Sx StV Fit9 nextS NextOut tkV9 IntArg)
set_option linter.unusedSimpArgs false
set_option linter.unusedVariables false

theorem NdP.set4 {W : World} {B : Nat} {P : Nat → Prop} {v : Value} {l : List Nv} {S : Nat} (h : NdP W B P v l) (hS : ∀ b, P b → b ≠ S) (x y p q : Value) : NdP (Lay.set4 W S x y p q) B P v l :=
  h.kept (by rw [set4_size]; exact Nat.le_refl _) (fun b hb hp => set4_keep (by
    rcases hp with hp | hp
    · exact hS b (h.own b hp)
    · exact hS b hp.1) ..)
theorem StOn.set4 {W : World} {P : Nat → Prop} {tv ov : Value} {s : Sx} {S : Nat} (h : StOn W P tv ov s) (hS : ∀ b, P b → b ≠ S) (x y p q : Value) : StOn (Lay.set4 W S x y p q) P tv ov s :=
  h.kept (by rw [set4_size]; exact Nat.le_refl _) (fun b hb hp => ⟨set4_keep (hS b hp) .., hp⟩)
theorem KOn.set4 {W : World} {P : Nat → Prop} {v : Value} {k : Fo} {S : Nat} (h : KOn W P v k) (hS : ∀ b, P b → b ≠ S) (x y p q : Value) : KOn (Lay.set4 W S x y p q) P v k :=
  h.kept (by rw [set4_size]; exact Nat.le_refl _) (fun b hb hp => ⟨set4_keep (hS b hp) .., hp⟩)
theorem set4_other {W : World} {S b : Nat} {o : Obj} (h : Lies W b o) (hb : b ≠ S) (x y p q : Value) : Lies (Lay.set4 W S x y p q) b o := (set4_keep hb x y p q).trans h
theorem closeR_eq (kind : Int) (c : UInt8) (l : Fo) (s : Sx) : closeR kind c l s = if (wantR s 15 [c]).e = 0 then ⟨nodeH kind, pushF l (wantR s 15 [c]), (wantR s 15 [c]).s, 0⟩ else wantR s 15 [c] := rfl
set_option maxRecDepth 1000000 in
set_option maxHeartbeats 4000000 in
theorem commas0_any {N : Nat} (hN : N ≤ 1099511627776) (R : NextOn 59) (P : Nat → Prop) (v : Value) (l : List Nv) (tv ov : Value) (s : Sx) (w : World) (hr : NdP w 0 P v l) (hs : StOn w (Px P v) tv ov s) (hf : Fits N s) (hP : ∀ b, w.heap.size ≤ b → P b) (hl : l.length + 1 ≤ 1099511627776) :
    Calls Try.prog 67 #[v, stV tv s.at_ ov s.wait] w (RdOutG (closeR 3 41 (foL l) s) P v.ownBlock w) := by
  obtain ⟨ta, tc, oa, oc, rfl, rfl⟩ := hs.len
  obtain ⟨va, vc, rfl⟩ := hr.slice
  have CW := Lib.hid (fun Q W h h2 => want_any hN R Q (.slice ta s.toks.length tc) (.slice oa s.opn.length oc) s 15 ⟨#[41]⟩ W h hf h2)
  unfold RdOut rdV at CW
  unfold stV at CW
  unfold stV
  have HW := Lib.hid (closeR_eq 3 41 (foL l) s)
  change Hid (∀ Q W, _ → _ → Calls _ _ _ _ (fun e w' => ∃ ka kc ta tc oa oc, _)) at CW
  have HS := Lib.hid hs
  have HP := Lib.hid hP
  have HN := Lib.hid hr
  have HL := Lib.hid hl
  generalize closeR 3 41 (foL l) s = x at *
  generalize wantR s 15 [41] = y at *
  clear hs hf hP R hr hl
  go_enter Try.func67, Try.ntmps67
  go_upto_region 1 with fail
  refine gen_world (fun X => Below w.heap.size w X ∧ Lies X w.heap.size (stB (.slice ta s.toks.length tc) s.at_ (.slice oa s.opn.length oc) s.wait) ∧ Lies X (w.heap.size + 1) kRd) ⟨below_two' w _ _, (two_lie w _ _).1, (two_lie w _ _).2⟩ ?_
  rintro X ⟨bX, lX, rX⟩
  have hr2 := rX.lt
  have OX := HS.out.intox (l := [w.heap.size, w.heap.size + 1]) bX (by simp)
  have NX := HN.out.into (ls := [w.heap.size, w.heap.size + 1]) bX (by simp)
  have PX := Pxm.of (v := .slice va l.length vc) (l := [w.heap.size, w.heap.size + 1]) HP.out (by simp; omega) (fun b e => (NX.lt e).2) bX.size
  have nR : Hid (w.heap.size < w.heap.size + 1) := Nat.lt_succ_self _
  generalize w.heap.size + 1 = R2 at *
  have WX := Lib.hid (CW.out _ X OX PX)
  obtain ⟨a0, a1, a2, a3⟩ := four_st lX
  have MX := Lib.hid ((Mv.refl w (.slice va l.length vc)).after bX)
  have RX := Lib.hid rX
  have HNX := Lib.hid NX
  clear bX lX rX CW HS HN hr2 OX NX PX
  go_upto_region 2 with (first
    | (go_at_call 56; refine WX.out.mono ?_; rintro e w2 ⟨ka2, kc2, ta2, tc2, oa2, oc2, rfl, k2, s2, b2⟩; have B2 := Lib.hid b2; have K2 := Lib.hid k2; have S2 := Lib.hid s2; clear b2 k2 s2))
  refine gen_world (fun Z => Below X.heap.size X Z ∧ Lies Z w2.heap.size (rdO y.h (.slice ka2 (len y.k) kc2) (.slice ta2 y.s.toks.length tc2) y.s.at_ (.slice oa2 y.s.opn.length oc2) y.s.wait y.e) ∧ KOn Z (Px (Pm P [w.heap.size, R2]) (.slice va l.length vc)) (.slice ka2 (len y.k) kc2) y.k ∧ StOn Z (Px (Pm P [w.heap.size, R2]) (.slice va l.length vc)) (.slice ta2 y.s.toks.length tc2) (.slice oa2 y.s.opn.length oc2) y.s ∧ X.heap.size ≤ w2.heap.size) ⟨afterL B2.out (below_one w2 _), Lies.new w2 _, K2.out.below (below_one w2 _) (Nat.le_refl _), S2.out.below (below_one w2 _) (Nat.le_refl _), B2.out.size⟩ ?_
  rintro Z ⟨bZ, yZ, kZ, sZ, hM⟩
  have MZ := Lib.hid (MX.out.after bZ)
  have RZ := RX.out.below bZ RX.out.lt
  have NZ := Lib.hid (HNX.out.below bZ (Nat.le_refl _))
  have hM2 : R2 < w2.heap.size := Nat.lt_of_lt_of_le RX.out.lt hM
  have hM3 : ∀ b, ((.slice va l.length vc) : Value).ownBlock = some b → b < w2.heap.size := fun b e => Nat.lt_of_lt_of_le (HNX.out.lt e).2 hM
  generalize w2.heap.size = M at *
  have YZ := Lib.hid yZ
  have KZ := Lib.hid kZ
  have SZ := Lib.hid sZ
  have HM := Lib.hid hM2
  have HM3 := Lib.hid hM3
  clear a0 a1 a2 a3 bZ kZ sZ hM hM2 hM3 B2 K2 S2 WX
  unfold kRd at RZ
  have R2Z := Lib.hid RZ
  by_cases h0 : y.e = 0
  · have HX : Hid (x = ⟨nodeH 3, pushF (foL l) y, y.s, 0⟩) := by rw [HW.out, if_pos h0]; rfl
    have x1 : (y.e != 0) = false := by rw [bne, beq_iff_eq.2 h0]; rfl
    obtain ⟨c0, c1, c2, c3, c4, c5, c6, c7, c8, c9, c10⟩ := eleven yZ
    clear HW h0 yZ RZ
    go_wp2_with (first
      | (at_builtin; refine append_lit Z rfl _ _ rfl 0 (Pm P [w.heap.size, R2]) (.slice va l.length vc) l [⟨y.h, y.k, .slice ka2 (len y.k) kc2⟩] rfl NZ.out _ _ rfl _ _ rfl rfl (fun x hx => by rw [List.mem_singleton.1 hx]; exact KZ.out) HL.out (Nat.zero_le _) (Pm.of HP.out (by have := R2Z.out.lt; have := nR.out; simp; omega) MZ.out.grown.size) ?_; intro v3 w3 n3 m3; have k3 := n3.on (by have := HL.out; unfold maxLen; rw [List.length_append]; simp; omega); rw [foL_push] at k3; obtain ⟨ka3, kc3, rfl⟩ := k3.len; have K3 := Lib.hid k3; have S3 := Lib.hid (m3.st SZ.out); have r3 := m3.lies R2Z.out (fun e => (NZ.out.own _ e).2 (by simp)); have y3 := m3.lies YZ.out (fun e => by have := HM3.out _ e; omega); have M3 := Lib.hid (MZ.out.trans m3); clear n3 m3 k3; clear c0 c1 c2 c3 c4 c5 c6 c7 c8 c9 c10; obtain ⟨c0, c1, c2, c3, c4, c5, c6, c7, c8, c9, c10⟩ := eleven y3; obtain ⟨f0, f1, f2, f3, f4, f5, f6, f7, f8, f9, f10⟩ := free11 r3; obtain ⟨e0, e1, e2, e3, e4, e5, e6, e7, e8, e9, e10⟩ := eleven r3; dsimp only [zeroN] at e0 e1 e2 e3 e4; have R3 := Lib.hid r3; clear r3 y3))
    refine bodyPost_ret (res_rd Try.results67 rfl (set11_lies R3.out (nodeH 3) (.slice ka3 (len (pushF (foL l) y)) kc3) (.slice ta2 y.s.toks.length tc2) y.s.at_ (.slice oa2 y.s.opn.length oc2) y.s.wait 0)) rfl ?_
    rw [HX.out]
    exact rdg_done (x := ⟨nodeH 3, pushF (foL l) y, y.s, 0⟩) M3.out (Nat.le_of_lt nR.out) K3.out (S3.out.less (fun b _ q => q.1)) (fun b hb q => ⟨q.1, fun e => q.2 (by rw [e]; simp)⟩)
  · have HX : Hid (x = y) := by rw [HW.out, if_neg h0]; rfl
    have x1 : (y.e != 0) = true := bne_iff_ne.2 h0
    obtain ⟨c0, c1, c2, c3, c4, c5, c6, c7, c8, c9, c10⟩ := eleven yZ
    obtain ⟨f0, f1, f2, f3, f4, f5, f6, f7, f8, f9, f10⟩ := free11 RZ
    obtain ⟨e0, e1, e2, e3, e4, e5, e6, e7, e8, e9, e10⟩ := eleven RZ
    dsimp only [zeroN] at e0 e1 e2 e3 e4
    clear HW h0 yZ RZ
    go_wp2_with fail
    refine bodyPost_ret (res_rd Try.results67 rfl (set11_lies R2Z.out y.h (.slice ka2 (len y.k) kc2) (.slice ta2 y.s.toks.length tc2) y.s.at_ (.slice oa2 y.s.opn.length oc2) y.s.wait y.e)) rfl ?_
    rw [HX.out]
    exact rdg_done MZ.out (Nat.le_of_lt nR.out) KZ.out SZ.out (fun b hb q => ⟨q.1.1, fun e => q.1.2 (by rw [e]; simp)⟩)
end Go.Proofs.Ytmgclgojmckfhaa.Typ
/-
  The document's Commas: a Head of brackets with commas. Conditions: what the document's Next does, and sizes that are borne.
-/
namespace Go.Proofs.Ytmgclgojmckfhaa.Typ
open Tks Tre Go.RowKit
open Lay (Sx StV Fit9 nextS NextOut tkV9 IntArg)
set_option linter.unusedSimpArgs false
set_option linter.unusedVariables false

/-- How much is left of a state. -/
def lf (s : Sx) : Nat := Lay.left s.toks s.at_.toNat s.opn s.wait
theorem step_less {s : Sx} (h : er s = 0) (hk : (tk s).kind ≠ 21) : lf (nx s) < lf s := by
  unfold lf nx er tk at *
  cases hok : Lay.okB s with
  | false =>
    unfold nextS at h
    rw [if_neg (by rw [hok]; decide)] at h
    exact absurd h (by decide)
  | true =>
    obtain ⟨n, hn, ok⟩ := (Lay.okB_iff s).1 hok
    unfold nextS at h hk ⊢
    rw [if_pos hok] at h hk ⊢
    dsimp only at h hk ⊢
    rw [hn, Int.toNat_natCast] at h hk ⊢
    rw [Int.toNat_natCast]
    exact Lay.next_less ok h hk
theorem is_less {s : Sx} {k : Int} {x : List UInt8} (h : isR s k x = true) (hk : k ≠ 21) : (takeR s).e = 0 ∧ (takeR s).s = nx s ∧ lf (takeR s).s < lf s := by
  obtain ⟨h1, h2⟩ := is_take h
  have e : takeR s = ⟨leafH (tk s), .nil, nx s, 0⟩ := if_pos h1
  refine ⟨h2, by rw [e], ?_⟩
  rw [e]
  refine step_less h1 ?_
  unfold isR at h
  simp only [Bool.and_eq_true, beq_iff_eq] at h
  rw [h.2.1]
  exact hk
set_option maxRecDepth 1000000 in
set_option maxHeartbeats 400000 in
theorem commas_any {N : Nat} (hN : N ≤ 1099511627776) (R : NextOn 59) (P : Nat → Prop) (v : Value) (l : List Nv) (tv ov : Value) (s : Sx) (w : World) (hr : NdP w 0 P v l) (hs : StOn w (Px P v) tv ov s) (hf : Fits N s) (hP : ∀ b, w.heap.size ≤ b → P b) (K : Nat) (hK : K ≤ 1099511627775) (hl : l.length + lf s ≤ K) :
    Calls Try.prog 66 #[v, stV tv s.at_ ov s.wait] w (RdOutG (commasR (fu s) (foL l) s) P v.ownBlock w) := by
  obtain ⟨ta, tc, oa, oc, rfl, rfl⟩ := hs.len
  obtain ⟨va, vc, rfl⟩ := hr.slice
  have CI := Lib.hid (fun Q tv ov s W h hf => is_any hN R Q tv ov s 15 ⟨#[44]⟩ W h hf)
  have CT := Lib.hid (fun Q tv ov s W h hf h2 => take_any hN R Q tv ov s W h hf h2)
  have CW := Lib.hid (fun Q tv ov s W h hf h2 => want_any hN R Q tv ov s 15 ⟨#[41]⟩ W h hf h2)
  unfold RdOut rdV at CW CT
  unfold stV at CI CT CW
  unfold stV
  have HS := Lib.hid hs
  have HF := Lib.hid hf
  have HP := Lib.hid hP
  have HN := Lib.hid hr
  have HKK := Lib.hid hK
  have HL0 := Lib.hid hl
  have HCO : Hid (∃ f, lf s < f ∧ commasR f (foL l) s = commasR (fu s) (foL l) s) := ⟨_, Nat.lt_succ_self _, rfl⟩
  generalize commasR (fu s) (foL l) s = x at *
  clear hs hf hP R hr hl hK
  go_enter Try.func66, Try.ntmps66
  go_upto_region 1 with fail
  refine gen_world (fun X => Below w.heap.size w X ∧ Lies X w.heap.size (stB (.slice ta s.toks.length tc) s.at_ (.slice oa s.opn.length oc) s.wait) ∧ Lies X (w.heap.size + 1) kRd) ⟨below_two' w _ _, (two_lie w _ _).1, (two_lie w _ _).2⟩ ?_
  rintro X ⟨bX, lX, rX⟩
  have OX := Lib.hid (HS.out.intox (l := [w.heap.size, w.heap.size + 1]) bX (by simp))
  have NX := Lib.hid (HN.out.into (ls := [w.heap.size, w.heap.size + 1]) bX (by simp))
  have nR : Hid (w.heap.size < w.heap.size + 1) := Nat.lt_succ_self _
  generalize w.heap.size + 1 = R2 at *
  have BX := Lib.hid bX
  have LX := Lib.hid lX
  have RX := Lib.hid rX
  clear bX lX rX HS HN
  go_loopw [0] (fun u wr => ∃ (l' : List Nv) (s' : Sx) (ta1 oa1 : Option Addr) (tc1 oc1 f : Nat), NdP wr 0 (Pm P [w.heap.size, R2]) u l' ∧ StOn wr (Px (Pm P [w.heap.size, R2]) u) (.slice ta1 s'.toks.length tc1) (.slice oa1 s'.opn.length oc1) s' ∧ Lies wr w.heap.size (stB (.slice ta1 s'.toks.length tc1) s'.at_ (.slice oa1 s'.opn.length oc1) s'.wait) ∧ Lies wr R2 kRd ∧ Mv w wr (.slice va l.length vc) u ∧ X.heap.size ≤ wr.heap.size ∧ Fits N s' ∧ l'.length + lf s' ≤ K ∧ lf s' < f ∧ commasR f (foL l') s' = x) (fun u _ => K - lenOf u)
  case atStart =>
    obtain ⟨f, h1, h2⟩ := HCO.out
    exact ⟨l, s, ta, oa, tc, oc, f, NX.out, OX.out, LX.out, RX.out, (Mv.refl _ _).after BX.out, Nat.le_refl _, HF.out, HL0.out, h1, h2⟩
  case round =>
    obtain ⟨l', s', ta1, oa1, tc1, oc1, f, hn, hs, hl, hr, hb, hz, hf, hk, hlt, hx⟩ := hrel
    obtain ⟨va1, vc1, rfl⟩ := hn.slice
    clear HCO NX OX LX RX BX
    have PX := Pxm.of (v := .slice va1 l'.length vc1) (l := [w.heap.size, R2]) HP.out (by have := hl.lt; have := hr.lt; simp; omega) (fun b e => (hn.lt e).2) hb.grown.size
    have IX := Lib.hid (CI.out _ _ _ s' wr hs hf)
    have TX := Lib.hid (fun W (h : Below wr.heap.size wr W) => CT.out _ _ _ s' W (hs.below h (Nat.le_refl _)) hf (fun b hb => PX b (Nat.le_trans h.size hb)))
    have WX := Lib.hid (fun W (h : Below wr.heap.size wr W) => CW.out _ _ _ s' W (hs.below h (Nat.le_refl _)) hf (fun b hb => PX b (Nat.le_trans h.size hb)))
    obtain ⟨f, rfl⟩ : ∃ g, f = g + 1 := ⟨f - 1, by omega⟩
    unfold commasR at hx
    change Hid (Calls _ _ _ _ (fun e w' => e = .returned (.bool (isR s' 15 [44])) ∧ _)) at IX
    have IL := @is_less s' 15 [44]
    obtain ⟨a0, a1, a2, a3⟩ := four_st hl
    have HNX := Lib.hid hn
    have OX := Lib.hid hs
    have LX := Lib.hid hl
    have RX := Lib.hid hr
    have MX := Lib.hid hb
    have HZ := Lib.hid hz
    have HF1 := Lib.hid (fits_take hf)
    have HKL := Lib.hid hk
    have HLT := Lib.hid hlt
    clear hn hs hl hr hb hz hf hk hlt PX CI CT CW
    cases hi : isR s' 15 [44] with
    | false =>
      rw [hi] at hx IX
      rw [if_neg (by decide)] at hx
      have HW := Lib.hid (hx.symm.trans (closeR_eq 3 41 (foL l') s'))
      generalize wantR s' 15 [41] = y at *
      clear hi hx IL TX
      go_upto_region 5 with (first
        | (go_at_call 38; refine IX.out.mono ?_; rintro e w1 ⟨rfl, b1⟩; have B1 := Lib.hid b1; have l1 := LX.out.below b1 LX.out.lt; clear a0 a1 a2 a3 b1; obtain ⟨a0, a1, a2, a3⟩ := four_st l1; clear l1))
      have WX := Lib.hid (WX.out _ B1.out)
      have RX := Lib.hid (RX.out.below B1.out RX.out.lt)
      have HNX := Lib.hid (HNX.out.below B1.out (Nat.le_refl _))
      have MX := Lib.hid (MX.out.after B1.out)
      have HL : Hid (l'.length + 1 ≤ 1099511627776) := by have := HKL.out; have := HKK.out; unfold Hid; omega
      clear B1 HKL HLT HF1 LX OX IX
      go_upto_region 6 with (first
        | (go_at_call 56; refine WX.out.mono ?_; rintro e w2 ⟨ka2, kc2, ta2, tc2, oa2, oc2, rfl, k2, s2, b2⟩; have B2 := Lib.hid b2; have K2 := Lib.hid k2; have S2 := Lib.hid s2; clear b2 k2 s2))
      refine gen_world (fun Z => Below w1.heap.size w1 Z ∧ Lies Z w2.heap.size (rdO y.h (.slice ka2 (len y.k) kc2) (.slice ta2 y.s.toks.length tc2) y.s.at_ (.slice oa2 y.s.opn.length oc2) y.s.wait y.e) ∧ KOn Z (Px (Pm P [w.heap.size, R2]) (.slice va1 l'.length vc1)) (.slice ka2 (len y.k) kc2) y.k ∧ StOn Z (Px (Pm P [w.heap.size, R2]) (.slice va1 l'.length vc1)) (.slice ta2 y.s.toks.length tc2) (.slice oa2 y.s.opn.length oc2) y.s ∧ w1.heap.size ≤ w2.heap.size) ⟨afterL B2.out (below_one w2 _), Lies.new w2 _, K2.out.below (below_one w2 _) (Nat.le_refl _), S2.out.below (below_one w2 _) (Nat.le_refl _), B2.out.size⟩ ?_
      rintro Z ⟨bZ, yZ, kZ, sZ, hM⟩
      have MZ := Lib.hid (MX.out.after bZ)
      have RZ := RX.out.below bZ RX.out.lt
      have NZ := Lib.hid (HNX.out.below bZ (Nat.le_refl _))
      have hM2 : R2 < w2.heap.size := Nat.lt_of_lt_of_le RX.out.lt hM
      have hM3 : ∀ b, ((.slice va1 l'.length vc1) : Value).ownBlock = some b → b < w2.heap.size := fun b e => Nat.lt_of_lt_of_le (HNX.out.lt e).2 hM
      generalize w2.heap.size = M at *
      have YZ := Lib.hid yZ
      have KZ := Lib.hid kZ
      have SZ := Lib.hid sZ
      have HM := Lib.hid hM2
      have HM3 := Lib.hid hM3
      clear a0 a1 a2 a3 bZ kZ sZ hM hM2 hM3 B2 K2 S2 WX
      unfold kRd at RZ
      have R2Z := Lib.hid RZ
      by_cases h0 : y.e = 0
      · have HX : Hid (x = ⟨nodeH 3, pushF (foL l') y, y.s, 0⟩) := by rw [HW.out, if_pos h0]; rfl
        have x1 : (y.e != 0) = false := by rw [bne, beq_iff_eq.2 h0]; rfl
        obtain ⟨c0, c1, c2, c3, c4, c5, c6, c7, c8, c9, c10⟩ := eleven yZ
        clear HW h0 yZ RZ
        go_wp2_with (first
          | (at_builtin; refine append_lit Z rfl _ _ rfl 0 (Pm P [w.heap.size, R2]) (.slice va1 l'.length vc1) l' [⟨y.h, y.k, .slice ka2 (len y.k) kc2⟩] rfl NZ.out _ _ rfl _ _ rfl rfl (fun x hx => by rw [List.mem_singleton.1 hx]; exact KZ.out) HL.out (Nat.zero_le _) (Pm.of HP.out (by have := R2Z.out.lt; have := nR.out; simp; omega) MZ.out.grown.size) ?_; intro v3 w3 n3 m3; have k3 := n3.on (by have := HL.out; unfold maxLen; rw [List.length_append]; simp; omega); rw [foL_push] at k3; obtain ⟨ka3, kc3, rfl⟩ := k3.len; have K3 := Lib.hid k3; have S3 := Lib.hid (m3.st SZ.out); have r3 := m3.lies R2Z.out (fun e => (NZ.out.own _ e).2 (by simp)); have y3 := m3.lies YZ.out (fun e => by have := HM3.out _ e; omega); have M3 := Lib.hid (MZ.out.trans m3); clear n3 m3 k3; clear c0 c1 c2 c3 c4 c5 c6 c7 c8 c9 c10; obtain ⟨c0, c1, c2, c3, c4, c5, c6, c7, c8, c9, c10⟩ := eleven y3; obtain ⟨f0, f1, f2, f3, f4, f5, f6, f7, f8, f9, f10⟩ := free11 r3; obtain ⟨e0, e1, e2, e3, e4, e5, e6, e7, e8, e9, e10⟩ := eleven r3; dsimp only [zeroN] at e0 e1 e2 e3 e4; have R3 := Lib.hid r3; clear r3 y3))
        refine bodyPost_ret (res_rd Try.results66 rfl (set11_lies R3.out (nodeH 3) (.slice ka3 (len (pushF (foL l') y)) kc3) (.slice ta2 y.s.toks.length tc2) y.s.at_ (.slice oa2 y.s.opn.length oc2) y.s.wait 0)) rfl ?_
        rw [HX.out]
        exact rdg_done (x := ⟨nodeH 3, pushF (foL l') y, y.s, 0⟩) M3.out (Nat.le_of_lt nR.out) K3.out (S3.out.less (fun b _ q => q.1)) (fun b hb q => ⟨q.1, fun e => q.2 (by rw [e]; simp)⟩)
      · have HX : Hid (x = y) := by rw [HW.out, if_neg h0]; rfl
        have x1 : (y.e != 0) = true := bne_iff_ne.2 h0
        obtain ⟨c0, c1, c2, c3, c4, c5, c6, c7, c8, c9, c10⟩ := eleven yZ
        obtain ⟨f0, f1, f2, f3, f4, f5, f6, f7, f8, f9, f10⟩ := free11 RZ
        obtain ⟨e0, e1, e2, e3, e4, e5, e6, e7, e8, e9, e10⟩ := eleven RZ
        dsimp only [zeroN] at e0 e1 e2 e3 e4
        clear HW h0 yZ RZ
        go_wp2_with fail
        refine bodyPost_ret (res_rd Try.results66 rfl (set11_lies R2Z.out y.h (.slice ka2 (len y.k) kc2) (.slice ta2 y.s.toks.length tc2) y.s.at_ (.slice oa2 y.s.opn.length oc2) y.s.wait y.e)) rfl ?_
        rw [HX.out]
        exact rdg_done MZ.out (Nat.le_of_lt nR.out) KZ.out SZ.out (fun b hb q => ⟨q.1.1, fun e => q.1.2 (by rw [e]; simp)⟩)
    | true =>
      rw [hi] at hx IX
      rw [if_pos rfl] at hx
      have IL := Lib.hid (IL hi (by decide))
      have HX := Lib.hid hx
      generalize takeR s' = y at *
      clear hi hx WX
      go_upto_region 2 with (first
        | (go_at_call 38; refine IX.out.mono ?_; rintro e w1 ⟨rfl, b1⟩; have B1 := Lib.hid b1; have l1 := LX.out.below b1 LX.out.lt; clear a0 a1 a2 a3 b1; obtain ⟨a0, a1, a2, a3⟩ := four_st l1; clear l1))
      go_upto_region 3 with (first
        | (go_at_call 39; refine (TX.out _ B1.out).mono ?_; rintro e w2 ⟨ka2, kc2, ta2, tc2, oa2, oc2, rfl, k2, s2, b2⟩; have B2 := Lib.hid b2; have K2 := Lib.hid k2; have S2 := Lib.hid s2; clear b2 k2 s2))
      refine gen_world (fun Z => Below wr.heap.size wr Z ∧ Lies Z w2.heap.size (rdO y.h (.slice ka2 (len y.k) kc2) (.slice ta2 y.s.toks.length tc2) y.s.at_ (.slice oa2 y.s.opn.length oc2) y.s.wait y.e) ∧ KOn Z (Px (Pm P [w.heap.size, R2]) (.slice va1 l'.length vc1)) (.slice ka2 (len y.k) kc2) y.k ∧ StOn Z (Px (Pm P [w.heap.size, R2]) (.slice va1 l'.length vc1)) (.slice ta2 y.s.toks.length tc2) (.slice oa2 y.s.opn.length oc2) y.s ∧ wr.heap.size ≤ w2.heap.size) ⟨afterL (afterL B1.out B2.out) (below_one w2 _), Lies.new w2 _, K2.out.below (below_one w2 _) (Nat.le_refl _), S2.out.below (below_one w2 _) (Nat.le_refl _), Nat.le_trans B1.out.size B2.out.size⟩ ?_
      rintro Z ⟨bZ, yZ, kZ, sZ, hM⟩
      have MZ := Lib.hid (MX.out.after bZ)
      have HZ2 := Lib.hid (Nat.le_trans HZ.out bZ.size)
      have RZ := Lib.hid (RX.out.below bZ RX.out.lt)
      have LZ := Lib.hid (LX.out.below bZ LX.out.lt)
      have NZ := Lib.hid (HNX.out.below bZ (Nat.le_refl _))
      have hM3 : ∀ b, (Value.slice va1 l'.length vc1).ownBlock = some b → b < w2.heap.size := fun b e => Nat.lt_of_lt_of_le (HNX.out.lt e).2 hM
      have hM2 : R2 < w2.heap.size := Nat.lt_of_lt_of_le RX.out.lt hM
      generalize w2.heap.size = M at *
      obtain ⟨c0, c1, c2, c3, c4, c5, c6, c7, c8, c9, c10⟩ := eleven yZ
      have YZ := Lib.hid yZ
      have KZ := Lib.hid kZ
      have SZ := Lib.hid sZ
      have HM3 := Lib.hid hM3
      have HM2 := Lib.hid hM2
      clear a0 a1 a2 a3 bZ kZ sZ hM hM3 hM2 B2 K2 S2 TX yZ RX LX HNX B1 MX HZ OX
      go_wp2_with (first
        | (at_builtin; refine append_lit Z rfl _ _ rfl 0 (Pm P [w.heap.size, R2]) (.slice va1 l'.length vc1) l' [⟨y.h, y.k, .slice ka2 (len y.k) kc2⟩] rfl NZ.out _ _ rfl _ _ rfl rfl (fun x hx => by rw [List.mem_singleton.1 hx]; exact KZ.out) (by have := HKL.out; have := HKK.out; have := IL.out.2.2; simp; omega) (Nat.zero_le _) (Pm.of HP.out (by have := RZ.out.lt; have := nR.out; simp; omega) MZ.out.grown.size) ?_; intro v3 w3 n3 m3; have S3 := Lib.hid (m3.st SZ.out); have R3 := Lib.hid (m3.lies RZ.out (fun e => (NZ.out.own _ e).2 (by simp))); have l3 := m3.lies LZ.out (fun e => (NZ.out.own _ e).2 (by simp)); have y3 := m3.lies YZ.out (fun e => by have := HM3.out _ e; omega); have M3 := Lib.hid (MZ.out.trans m3); have Z3 := Lib.hid (Nat.le_trans HZ2.out m3.grown.size); have N3 := Lib.hid n3; clear n3 m3; clear c0 c1 c2 c3 c4 c5 c6 c7 c8 c9 c10; obtain ⟨c0, c1, c2, c3, c4, c5, c6, c7, c8, c9, c10⟩ := eleven y3; obtain ⟨a0, a1, a2, a3⟩ := four_st l3; obtain ⟨g0, g1, g2, g3⟩ := four_fr l3; have L3 := Lib.hid l3; clear l3 y3))
      have q4 := fun b (h : Px (Pm P [w.heap.size, R2]) v3 b) => (show b ≠ w.heap.size from fun e => h.1.2 (by rw [e]; simp))
      obtain ⟨va4, vc4, e4⟩ := N3.out.slice
      refine ⟨⟨_, y.s, ta2, oa2, tc2, oc2, f, NdP.set4 N3.out (fun b h e => h.2 (by rw [e]; simp)) _ _ _ _, StOn.set4 S3.out q4 _ _ _ _, set4_lies L3.out _ _ _ _, set4_other R3.out (by have := nR.out; omega) _ _ _ _, M3.out.set4 (Nat.le_refl _) _ _ _ _, Nat.le_trans Z3.out (Nat.le_of_eq (set4_size _ _ _ _).symm), HF1.out, ?_, ?_, ?_⟩, ?_⟩
      · have := HKL.out
        have := IL.out.2.2
        rw [List.length_append, List.length_singleton]
        omega
      · have := HLT.out
        have := IL.out.2.2
        omega
      · rw [foL_push]
        exact HX.out
      · rw [e4]
        have := HKL.out
        have := IL.out.2.2
        simp only [lenOf, List.length_append, List.length_singleton]
        omega
end Go.Proofs.Ytmgclgojmckfhaa.Typ
