/-
  The program's own mark.Bare at any tokens. Condition: at most 2^40 - 1 tokens.
-/
import Derived.Test.YthjckmoobbpidaaMrkSeq
namespace Go.Proofs.Ythjckmoobbpidaa.Mrk
open Tks Go.RowKit Go.Shelf
set_option linter.unusedSimpArgs false
set_option linter.unusedVariables false

attribute [local go_sem] Oper.semAt_some

/-- A block lies there. -/
def ObjAt (W : World) (B : Nat) (o : Obj) : Prop := W.heap[B]? = some o
theorem ObjAt.new (W : World) (o : Obj) : ObjAt (W.alloc o) W.heap.size o := World.alloc_heap_new W o
theorem ObjAt.lt {W : World} {B : Nat} {o : Obj} (h : ObjAt W B o) : B < W.heap.size := (Array.getElem?_eq_some_iff.1 h).1
theorem ObjAt.kept {W W' : World} {row : Option Nat} {B : Nat} {o : Obj} (h : ObjAt W B o) (hg : W.grownBy W' row) (hne : some B ≠ row) : ObjAt W' B o := (hg.block B h.lt hne).trans h
theorem ObjAt.own {β : Type} (B : Nat) (o : Obj) (hc : o.isCells = true) : _root_.Go.Own (fun (_ : β) W => ObjAt W B o) := fun s X Y row hs hg hrow =>
  ObjAt.kept hs hg (fun e' => by
    obtain ⟨o', ho, hc'⟩ := hrow B e'.symm
    rw [show X.heap[B]? = _ from hs] at ho
    cases ho
    rw [hc] at hc'
    cases hc')
theorem ObjAt.cell {W : World} {B : Nat} {cs : Array Value} {t : TypeId} {fr : Nat × Nat} (h : ObjAt W B (.cells cs t fr)) (j : Nat) : W.cell? ⟨B, j, none⟩ = cs[j]? := cell_of_row _ _ _ _ _ _ h
theorem own_box {β : Type} (n₀ B : Nat) (f : β → List Tk) : _root_.Go.Own (fun s W => ∃ v, Boxed W B 26 v ∧ Tks.Own W n₀ v (f s)) := by
  have h := holdsRow_own n₀ B 26 23 4 (fun s => (f s).length) (fun s => (f s).flatMap tkC) (fun (s : β) (_ : Value) => True)
  intro s X Y row ⟨v, h1, h2⟩ hg hr
  obtain ⟨v, h1, h2, -⟩ := h s X Y row ⟨v, h1, h2, trivial⟩ hg hr
  exact ⟨v, h1, h2⟩
/-- How a round goes on: the variable that the row lies in holds the longer row; the rest of what a round keeps. -/
structure Fwd (n₀ B Bs : Nat) (W W' : World) (v' : Value) (acc' : List Tk) : Prop where
  box : Boxed W' B 26 v'
  own : Tks.Own W' n₀ v' acc'
  oth : KeepsOthers W W'
  kb : KeepB n₀ Bs W W'
theorem pushed {W w1 : World} {n₀ B Bs : Nat} {v v' : Value} {acc acc' : List Tk} {tmp : Obj} (hv : Boxed W B 26 v) (hrow : Tks.Own W n₀ v acc) (hn₀ : n₀ ≤ W.heap.size) (hB : n₀ ≤ B) (hne : Bs ≠ B)
    (hown' : Tks.Own w1 n₀ v' acc') (hgrow : (W.alloc tmp).grownBy w1 v.ownBlock) : Boxed w1 B 26 v ∧ Fwd n₀ B Bs W (w1.setCell ⟨B, 0, none⟩ v') v' acc' := by
  obtain ⟨h1, h2, h3, h4, h5⟩ := Boxed.appended (t := 26) (e := 23) hv (by decide) hrow hn₀ hB hown' hgrow
  exact ⟨h1, h2, h3, h4, h5, fun u q => (((q.alloc tmp).kept hgrow (q.not_row (by decide) hrow)).other hne v')⟩
/-- append of the tokens that were just laid in one block, and what the store behind it comes to. -/
theorem push_box {F : Fence} {n : Nat} {ops : Array Oper} {rest : List Oper} {o : Oper} {a : Act} {Q : Exit → Act → World → Prop} (hg : o.guard = none) (sl x : Operand) (hop : o.op = Op.call { callee := Callee.builtin Builtin.append, args := #[sl, x], argTypes := #[26, 26] })
    (W : World) (n₀ B Bs : Nat) (v : Value) (acc : List Tk) (t : Tk) (ty : TypeId) (c : Nat) (hs : a.eval sl = v) (hv : Boxed W B 26 v) (hrow : Tks.Own W n₀ v acc) (hn₀ : n₀ ≤ W.heap.size) (hB : n₀ ≤ B) (hne : Bs ≠ B) (hx : a.eval x = .slice (some ⟨W.heap.size, 0, none⟩) 1 c) (b1 : acc.length + 1 ≤ 3518437208880)
    (hK : ∀ g cap w1, Boxed w1 B 26 v → Fwd n₀ B Bs W (w1.setCell ⟨B, 0, none⟩ (.slice (some ⟨g, 0, none⟩) (acc.length + 1) cap)) (.slice (some ⟨g, 0, none⟩) (acc.length + 1) cap) (acc ++ [t]) → wpListIn F n Try.prog ops Q rest (a.put o.dst (.slice (some ⟨g, 0, none⟩) (acc.length + 1) cap)) w1) :
    wpListIn F n Try.prog ops Q (o :: rest) a (W.alloc (.cells #[.int .i64 t.kind, .string t.text, .int .i64 t.line, .int .i64 t.col] ty)) := by
  obtain ⟨i0, hi, hz0, hz1, hz2⟩ := info_parts infoTok
  refine wpListIn_append_own _ hg sl x 26 hop n₀ 23 i0 _ 4 40 Try.underlying26 hi hz0 hz1 hz2 rfl (by decide) v acc.length (acc.flatMap tkC) hs (World.ownsRow.alloc hrow _) ⟨W.heap.size, 0, none⟩ 1 c (tkC t) hx rfl (fun j u hj => ?_) ?_ (by unfold maxLen; omega) (by omega) (by rw [World.size_alloc]; omega) ?_
  · rw [add_plain, new_cell]
    simpa [tkC] using hj
  · intro u hu
    simp only [tkC, List.mem_cons, List.not_mem_nil, or_false] at hu
    rcases hu with rfl | rfl | rfl | rfl <;> rfl
  · intro v' w1 h1 h2 _
    obtain ⟨g, cap, rfl⟩ := ownsRow_succ h1
    have h3 : Tks.Own w1 n₀ (.slice (some ⟨g, 0, none⟩) (acc.length + 1) cap) (acc ++ [t]) := by
      unfold Tks.Own
      rw [List.length_append, List.flatMap_append]
      simpa using h1
    obtain ⟨k1, k2⟩ := pushed (Bs := Bs) hv hrow hn₀ hB hne h3 h2
    exact hK g cap w1 k1 k2
def bareF {l : List Tk} (pre : List (Fin l.length)) : List Tk := bareL (pre.map fun k => l[k])
theorem bareF_snoc {l : List Tk} (pre : List (Fin l.length)) (x : Fin l.length) : bareF (pre ++ [x]) = bareF pre ++ bareL [l[x]] := by
  unfold bareF
  rw [List.map_append, bareL_append]
  rfl
theorem bareF_len {l : List Tk} (pre : List (Fin l.length)) : (bareF pre).length ≤ pre.length := by
  have := bareL_len (pre.map fun k => l[k])
  rwa [List.length_map] at this
theorem all_map (l : List Tk) : (List.finRange l.length).map (fun k => l[k]) = l := by
  apply List.ext_getElem
  · simp
  · intro i h1 h2
    simp
set_option maxRecDepth 100000 in
set_option maxHeartbeats 4000000 in
theorem bareP_in (F : Fence) (n : Nat) (h1f : F.fn 15) (h2f : F.fn 17) (h3f : F.fn 23) (hro : F.round = none) (hn : 3 ≤ n) (v : Value) (l : List Tk) (hm : l.length ≤ 3518437208879) (w : World) (hA : TkArg w v l) :
    CallsIn F n Try.prog 15 #[v] w fun e W' => ∃ r, e = .returned r ∧ Tks.Own W' w.heap.size r (bareL l) ∧ Below w.heap.size w W' := by
  have h1 : 1 ≤ n := by omega
  obtain ⟨i0, hi, hz0, hz1, hz2⟩ := info_parts infoTok
  obtain ⟨a, c, rfl⟩ := hA.len
  refine callsIn_of_wp_marks Try.func15 rfl h1f ?_ hro
  simp only [Try.ntmps15, List.size_toArray, List.length_cons, List.length_nil, Nat.reduceAdd, Nat.reduceSub, Array.replicate_succ, Array.replicate_zero, List.push_toArray, List.append_toArray, List.nil_append, List.cons_append]
  gi_wp2_with (gi_at_call 17; refine (each_in F (n - 1) h2f hro _ _ _ _).mono ?_; rintro e w' ⟨rfl, rfl⟩)
  have bO := Boxed.new w 26 (.slice none 0 0)
  have bN := Boxed.new (w.alloc (.cells #[.slice none 0 0] 26)) 26 (.slice a l.length c)
  rw [World.size_alloc] at bN
  have hB0 : Below w.heap.size w ((w.alloc (.cells #[.slice none 0 0] 26)).alloc (.cells #[.slice a l.length c] 26)) := ((Below.refl _ w).alloc (Nat.le_refl _) _).alloc (by simp) _
  have hsz : ((w.alloc (.cells #[.slice none 0 0] 26)).alloc (.cells #[.slice a l.length c] 26)).heap.size = w.heap.size + 2 := by simp
  have bO1 := bO.alloc (.cells #[.slice a l.length c] 26)
  obtain ⟨W0, hW0⟩ : ∃ W0, ((w.alloc (.cells #[.slice none 0 0] 26)).alloc (.cells #[.slice a l.length c] 26)) = W0 := ⟨_, rfl⟩
  rw [hW0] at bO1 bN hB0 hsz ⊢
  clear hW0 bO
  refine wpIn_rangeFunc_ownH hro h1 (gf := 23) (lb := #[.pointer (some ⟨w.heap.size + 1, 0, none⟩)]) rfl h3f (enters_of Try.func23 (by kernel_rfl) rfl)
    (each_stops F (n - 1) h3f hro (by omega) (w.heap.size + 1) w.heap.size (.slice a l.length c) l (by omega) w W0 (by omega) (Nat.le_refl _) (by omega) bN hA hB0) KeepB.trans (KeepB.put (by omega)) (Below.refl _ _) (fun _ => rfl)
    (fun pre W => ((∃ v, Boxed W w.heap.size 26 v ∧ Tks.Own W w.heap.size v (bareF pre)) ∧ Boxed W (w.heap.size + 1) 26 (.slice a l.length c)) ∧ Below w.heap.size w W)
    (fun _ _ _ => False)
    (OwnFrom.and (OwnFrom.and (_root_.Go.Own.from (own_box _ _ _) _) (_root_.Go.Own.from (boxed_own _ _ _) _)) (ownFrom_below (Nat.le_refl _) (by omega)))
    (fun _ _ _ _ _ hs _ _ => hs)
    ⟨⟨⟨_, bO1, Tks.Own.nil _ _⟩, bN⟩, hB0⟩
    (fun x a' W => ∃ Bx, w.heap.size + 1 < Bx ∧ ObjAt W Bx (tkO l[x]) ∧ a' = { tmps := #[.slice a l.length c, undef, .slice none 0 0, .pointer (some ⟨w.heap.size, 0, none⟩), .pointer (some ⟨Bx, 0, none⟩), .slice a l.length c, .func (.func 23) #[] #[.pointer (some ⟨w.heap.size + 1, 0, none⟩)], tkV l[x], pvOf (.slice a l.length c) x.1, undef, undef, undef, undef, undef, undef, undef, undef, undef, undef, undef, undef, undef], defers := [] })
    (fun x a' _ X Y row hs hg hr => by obtain ⟨Bx, h1, h2, h3⟩ := hs; exact ⟨Bx, h1, ObjAt.own (β := Unit) Bx _ rfl () X Y row h2 hg (fun r e => (hr r e).2), h3⟩)
    ?assign ?body ?done ?stop
  case assign =>
    rintro lp pre x W K ⟨⟨⟨v1, bS1, hrow⟩, bN1⟩, hB1⟩ hK
    have hlt := bN1.lt
    unfold tkV
    gi_wp2
    exact hK _ _ ((KeepsOthers.alloc _ _).from _) ⟨(Below.refl _ W).alloc hB1.size _, fun v q => q.alloc _⟩ ⟨⟨⟨_, bS1.alloc _, hrow.below ((Below.refl _ W).alloc (Nat.le_refl _) _) (Nat.le_refl _)⟩, bN1.alloc _⟩, hB1.alloc hB1.size _⟩ ⟨W.heap.size, hlt, ObjAt.new W _, rfl⟩
  case body =>
    rintro lp pre x a' W hlp ⟨r, hr⟩ ⟨⟨⟨v1, bS1, hrow⟩, bN1⟩, hB1⟩ ⟨Bx, hBx, bX, rfl⟩ hlt
    have cO := bS1.cell
    have x0 := bX.cell 0
    have x1 := bX.cell 1
    have x2 := bX.cell 2
    have x3 := bX.cell 3
    have hbl := bareF_len pre
    have h1' : 1 ≤ n - 1 - 1 := by omega
    obtain ⟨t, ht⟩ : ∃ t, l[x] = t := ⟨_, rfl⟩
    rw [ht] at x0 x1 x2 x3 bX ⊢
    simp only [List.getElem?_toArray, List.getElem?_cons_zero, List.getElem?_cons_succ] at x0 x1 x2 x3
    rcases mark_cases t with ⟨h1, h2⟩ | ⟨h1, h2⟩ | ⟨h1, h2, h3⟩
    · have e1 : bareF (pre ++ [x]) = bareF pre := by rw [bareF_snoc, ht]; simp [bareL, h2]
      have x5 : (t.kind != 16) = false := by rw [h1]; rfl
      gi_wp2_with fail
      exact ⟨(KeepsOthers.refl _).from _, KeepB.refl _, ⟨⟨v1, bS1, by rw [e1]; exact hrow⟩, bN1⟩, hB1⟩
    · have e1 : bareF (pre ++ [x]) = bareF pre := by rw [bareF_snoc, ht]; simp [bareL, h2]
      have x5 : (t.kind != 16) = true := by rw [h1]; rfl
      have x6 : (t.kind != 17) = false := by rw [h1]; rfl
      gi_wp2_with fail
      exact ⟨(KeepsOthers.refl _).from _, KeepB.refl _, ⟨⟨v1, bS1, by rw [e1]; exact hrow⟩, bN1⟩, hB1⟩
    · have e1 : bareF (pre ++ [x]) = bareF pre ++ [t] := by rw [bareF_snoc, ht]; simp [bareL, h3]
      have x5 : (t.kind != 16) = true := by rw [bne_iff_ne]; exact h1
      have x6 : (t.kind != 17) = true := by rw [bne_iff_ne]; exact h2
      gi_wp2_with (gi_at_builtin; refine push_box rfl _ _ rfl W w.heap.size w.heap.size (w.heap.size + 1) v1 (bareF pre) t _ 1 rfl bS1 hrow hB1.size (Nat.le_refl _) (by omega) rfl (by omega) ?_; intro g' cap' w1 k1 k2; have k1c := k1.cell; have k1f := k1.frozen)
      exact ⟨k2.oth.from _, k2.kb, ⟨⟨_, k2.box, by rw [e1]; exact k2.own⟩, k2.kb.2 _ bN1⟩, hB1.trans k2.kb.1⟩
  case done =>
    rintro D zs W hD rfl ⟨⟨⟨v1, bS1, hrow⟩, bN1⟩, hB1⟩ hK
    have cS := bS1.cell
    gi_wp2
    refine ⟨by simp, .inl ⟨_, _, rfl, run_takeDeferred hK, ?_⟩⟩
    refine ⟨_, results_tmp rfl _ _ _, v1, rfl, ?_, hB1.trans (belowK_b (w := w) (Nat.le_refl _) W D _ _ (by omega) hK rfl rfl)⟩
    have h := ownsRow_putObj hrow (.deferred none) hK rfl
    unfold bareF at h
    rw [all_map] at h
    exact h
  case stop =>
    rintro D c pre W _ _ h _
    exact h.elim
end Go.Proofs.Ythjckmoobbpidaa.Mrk
