/-
  The program's own mark.Mark at any tokens. Conditions: at most 2^37 tokens, texts of at most 4294967280 bytes; some variable of the library's own holds some number.
-/
import Derived.Test.YthjckmoobbpidaaMrkStp
import Derived.Deep.RegionHeld
namespace Go.Proofs.Ythjckmoobbpidaa.Mrk
open Tks Go.RowKit Go.Shelf
set_option linter.unusedSimpArgs false
set_option linter.unusedVariables false

attribute [local go_sem] Oper.semAt_some

set_option maxRecDepth 100000 in
set_option maxHeartbeats 8000000 in
theorem markP_in (n : Nat) (hn : 3 ≤ n) (v : Value) (l : List Tk) (hS : Small l) (w : World) (hM : Mx w) (hA : TkArg w v l) :
    CallsIn Fence.wide n Try.prog 13 #[v] w fun e W' => ∃ r, e = .returned r ∧ Tks.Own W' w.heap.size r (markL nlS l) ∧ Below w.heap.size w W' := by
  have h1 : 1 ≤ n := by omega
  have hm := hS.1
  obtain ⟨a, c, rfl⟩ := hA.len
  refine callsIn_of_wp_marks Try.func13 rfl trivial ?_ rfl
  simp only [Try.ntmps13, List.size_toArray, List.length_cons, List.length_nil, Nat.reduceAdd, Nat.reduceSub, Array.replicate_succ, Array.replicate_zero, List.push_toArray, List.append_toArray, List.nil_append, List.cons_append]
  gi_wp2_with (refine ⟨trivial, ?_⟩; gi_at_call 17; refine (each_in Fence.wide (n - 1) trivial rfl _ _ _ _).mono ?_; rintro e w' ⟨rfl, rfl⟩)
  have bO := Boxed.new w 26 (.slice none 0 0)
  have bN := Boxed.new (w.alloc (.cells #[.slice none 0 0] 26)) 26 (.slice a l.length c)
  rw [World.size_alloc] at bN
  have hB0 : Below w.heap.size w ((w.alloc (.cells #[.slice none 0 0] 26)).alloc (.cells #[.slice a l.length c] 26)) := ((Below.refl _ w).alloc (Nat.le_refl _) _).alloc (by simp) _
  have hsz : ((w.alloc (.cells #[.slice none 0 0] 26)).alloc (.cells #[.slice a l.length c] 26)).heap.size = w.heap.size + 2 := by simp
  have bO1 := bO.alloc (.cells #[.slice a l.length c] 26)
  obtain ⟨W0, hW0⟩ : ∃ W0, ((w.alloc (.cells #[.slice none 0 0] 26)).alloc (.cells #[.slice a l.length c] 26)) = W0 := ⟨_, rfl⟩
  rw [hW0] at bO1 bN hB0 hsz ⊢
  clear hW0 bO
  refine wpIn_rangeFunc_ownH rfl h1 (gf := 23) (lb := #[.pointer (some ⟨w.heap.size + 1, 0, none⟩)]) rfl trivial (enters_of Try.func23 (by kernel_rfl) rfl)
    (each_stops Fence.wide (n - 1) trivial rfl (by omega) (w.heap.size + 1) w.heap.size (.slice a l.length c) l (by omega) w W0 (by omega) (Nat.le_refl _) (by omega) bN hA hB0) KeepB.trans (KeepB.put (by omega)) (Below.refl _ _) (fun _ => rfl)
    (fun pre W => ((∃ v, Boxed W w.heap.size 26 v ∧ Tks.Own W w.heap.size v (markP nlS pre)) ∧ Boxed W (w.heap.size + 1) 26 (.slice a l.length c)) ∧ Below w.heap.size w W)
    (fun _ _ _ => False)
    (OwnFrom.and (OwnFrom.and (_root_.Go.Own.from (own_box _ _ _) _) (_root_.Go.Own.from (boxed_own _ _ _) _)) (ownFrom_below (Nat.le_refl _) (by omega)))
    (fun _ _ _ _ _ hs _ _ => hs)
    ⟨⟨⟨_, bO1, Tks.Own.nil _ _⟩, bN⟩, hB0⟩
    (fun x a' W => ∃ Bx, w.heap.size + 1 < Bx ∧ ObjAt W Bx (tkO l[x]) ∧ (∃ u : { u : Value // u.ownBlock ≠ some Bx }, Boxed W w.heap.size 26 u.1) ∧ a' = { tmps := #[.slice a l.length c, undef, .slice none 0 0, .pointer (some ⟨w.heap.size, 0, none⟩), .pointer (some ⟨Bx, 0, none⟩), pvOf (.slice a l.length c) x.1, .slice a l.length c, .func (.func 23) #[] #[.pointer (some ⟨w.heap.size + 1, 0, none⟩)], tkV l[x], pvOf (.slice a l.length c) x.1, undef, undef, undef, undef, undef, undef, undef, undef, undef, undef, undef, undef, undef, undef, undef, undef, undef, undef, undef, undef, undef, undef, undef, undef, undef, undef, undef, undef, undef, undef, undef, undef, undef, undef, undef, undef, undef, undef, undef, undef, undef], defers := [] })
    (fun x a' _ X Y row hs hg hr => by obtain ⟨Bx, h1, h2, ⟨u, hu⟩, h3⟩ := hs; exact ⟨Bx, h1, ObjAt.own (β := Unit) Bx _ rfl () X Y row h2 hg (fun r e => (hr r e).2), ⟨u, boxed_own w.heap.size 26 (fun (_ : Unit) => u.1) () X Y row hu hg (fun r e => (hr r e).2)⟩, h3⟩)
    ?assign ?body ?done ?stop
  case assign =>
    rintro lp pre x W K ⟨⟨⟨v1, bS1, hrow⟩, bN1⟩, hB1⟩ hK
    have hlt := bN1.lt
    unfold tkV
    gi_wp2
    exact hK _ _ ((KeepsOthers.alloc _ _).from _) ⟨(Below.refl _ W).alloc hB1.size _, fun v q => q.alloc _⟩ ⟨⟨⟨_, bS1.alloc _, hrow.below ((Below.refl _ W).alloc (Nat.le_refl _) _) (Nat.le_refl _)⟩, bN1.alloc _⟩, hB1.alloc hB1.size _⟩ ⟨W.heap.size, hlt, ObjAt.new W _, ⟨⟨v1, fun e => by have := (World.ownsRow.lt hrow _ e).2; omega⟩, bS1.alloc _⟩, rfl⟩
  case body =>
    rintro lp pre x a' W hlp ⟨r, hr⟩ ⟨⟨⟨v1, bS1, hrow⟩, bN1⟩, hB1⟩ ⟨Bx, hBx, bX, ⟨⟨u, hu⟩, bU⟩, rfl⟩ hlt
    have hml := markP_len nlS pre
    have h1' : 1 ≤ n - 1 - 1 := by omega
    have hst := markP_snoc nlS pre x
    rw [stepT_is] at hst
    have C1 : Hid (∀ W', Below w.heap.size w W' → Calls Try.prog 18 #[tkV l[x], pvOf (.slice a l.length c) x.1] W' fun e w' => e = .returned (.bool (blockV x)) ∧ Below W'.heap.size W' w') := fun W' h => block_at (hA.below h (Nat.le_refl _)) x
    have C2 : Hid (∀ W', Below w.heap.size w W' → Calls Try.prog 20 #[tkV l[x], pvOf (.slice a l.length c) x.1] W' fun e w' => e = .returned (.bool (lineV nlS x)) ∧ Below W'.heap.size W' w') := fun W' h => line_at (hM.below h (Nat.le_refl _)) hS (hA.below h (Nat.le_refl _)) x
    obtain rfl : u = v1 := Option.some.inj (bU.cell.symm.trans bS1.cell)
    clear bU
    have M0 : Mids w.heap.size w.heap.size (w.heap.size + 1) Bx W W u (markP nlS pre) l[x] := ⟨bS1, hrow, bX, KeepsOthers.refl _, KeepB.refl _, hB1.size, hu⟩
    obtain ⟨t, ht⟩ : ∃ t, l[x] = t := ⟨_, rfl⟩
    obtain ⟨q, hq⟩ : ∃ q, pvOf (.slice a l.length c) x.1 = q := ⟨_, rfl⟩
    generalize markP nlS pre = acc at *
    generalize blockV x = bb at *
    generalize lineV nlS x = fb at *
    rw [ht] at M0 C1 C2 hst ⊢
    rw [hq] at C1 C2 ⊢
    unfold tkV at C1 C2
    clear bS1 hrow bX hq ht
    obtain ⟨c0, x0, x1, x2, x3⟩ := M0.cells
    have N0 := Lib.hid M0
    have HST := Lib.hid hst
    clear hst M0
    cases bb with
    | true =>
      gi_wp2_with (first
        | (refine ⟨trivial, ?_⟩; gi_at_call 18; refine (CallsIn.inRound lp (callsIn_wide.2 (C1.out _ hB1))).mono ?_; rintro e w1 ⟨rfl, hb1⟩; have N1 := Lib.hid (N0.out.below hb1); have HB1 := Lib.hid hb1; clear hb1; obtain ⟨d0, y0, y1, y2, y3⟩ := N1.out.cells))
      have hS1 : ObjAt w1.drew Bx (tkO t) := N1.out.tok
      have NY := Lib.hid (N1.out.below (below_drew _ w1))
      obtain ⟨cY, _, _, _, _⟩ := NY.out.cells
      refine region_round (S := fun W' => ObjAt W' Bx (tkO t)) (by kernel_rfl) (by rfl) (fun ⟨a, w, h⟩ => h) ?_
      refine wpAnyH_take (i := 1) (oi := { dst := some 19, op := Go.Op.load 23 (Go.Operand.tmp 4), type := 23, pos := _, after := #[], guard := none }) (v := (.agg #[.int .i64 t.kind, .string t.text, .int .i64 t.line, .int .i64 t.col])) rfl (by kernel_rfl) (by kernel_rfl) (by kernel_rfl) (fun _ _ _ h => h) (Or.inl ⟨by rfl, fun w2 hSw => by obtain ⟨y0, y1, y2, y3⟩ := tok4 hSw; go_simp⟩) hS1 ?_
      try simp only [Act.put, List.setIfInBounds_toArray, List.set_cons_zero, List.set_cons_succ]
      refine wpAnyH_take (i := 3) (oi := { dst := some 21, op := Go.Op.load 23 (Go.Operand.tmp 4), type := 23, pos := _, after := #[], guard := none }) (v := (.agg #[.int .i64 t.kind, .string t.text, .int .i64 t.line, .int .i64 t.col])) rfl (by kernel_rfl) (by kernel_rfl) (by kernel_rfl) (fun _ _ _ h => h) (Or.inl ⟨by rfl, fun w2 hSw => by obtain ⟨y0, y1, y2, y3⟩ := tok4 hSw; go_simp⟩) hS1 ?_
      try simp only [Act.put, List.setIfInBounds_toArray, List.set_cons_zero, List.set_cons_succ]
      refine wpAnyH_ready (rs := [0, 2]) (by kernel_rfl) (by simp) ?_
      refine (AllReadyH.cons (o := { dst := some 18, op := Go.Op.load 26 (Go.Operand.tmp 3), type := 26, pos := _, after := #[], guard := none }) rfl (fun K hK => ?_) (AllReadyH.cons (o := { dst := some 20, op := Go.Op.call { callee := Go.Callee.value (Go.Operand.func 19), args := #[Go.Operand.tmp 19, Go.Operand.const (Go.Value.int Go.IntKind.i64 16)], argTypes := #[23, 3] }, type := 23, pos := _, after := #[{ on := 1, ground := Go.Ground.data }], guard := none }) rfl (fun K hK => ?_) AllReadyH.nil))
      · skip
        go_simp
        refine hK.out _ _ hS1 (fun _ => ?_)
        clear hK K
        try simp only [Act.put, List.setIfInBounds_toArray, List.set_cons_zero, List.set_cons_succ]
        refine wpAnyH_ready (rs := [2]) (by kernel_rfl) (by simp) ?_
        refine (AllReadyH.cons (o := { dst := some 20, op := Go.Op.call { callee := Go.Callee.value (Go.Operand.func 19), args := #[Go.Operand.tmp 19, Go.Operand.const (Go.Value.int Go.IntKind.i64 16)], argTypes := #[23, 3] }, type := 23, pos := _, after := #[{ on := 1, ground := Go.Ground.data }], guard := none }) rfl (fun K hK => ?_) AllReadyH.nil)
        go_simp
        go_at_call 19
        refine (before_any t 16 _).mono ?_
        rintro e w5 ⟨rfl, hb5⟩
        have N5 := Lib.hid (NY.out.below hb5)
        clear hb5
        obtain ⟨c5, p0, p1, p2, p3⟩ := N5.out.cells
        have hS5 := N5.out.tok
        try dsimp only
        refine hK.out _ _ hS5 (fun _ => ?_)
        clear hK K
        try simp only [Act.put, List.setIfInBounds_toArray, List.set_cons_zero, List.set_cons_succ]
        refine wpAnyH_ready (rs := [4]) (by kernel_rfl) (by simp) ?_
        refine (AllReadyH.cons (o := { dst := some 22, op := Go.Op.buildSlice 26 2 #[(0, Go.Operand.tmp 20), (1, Go.Operand.tmp 21)], type := 26, pos := _, after := #[{ on := 2, ground := Go.Ground.data }, { on := 3, ground := Go.Ground.data }], guard := none }) rfl (fun K hK => ?_) AllReadyH.nil)
        go_simp
        refine hK.out _ _ (hS5.kept (World.grownBy_alloc _ _ none) (by simp)) (fun _ => ?_)
        clear hK K
        try simp only [Act.put, List.setIfInBounds_toArray, List.set_cons_zero, List.set_cons_succ]
        refine wpAnyH_ready (rs := [5]) (by kernel_rfl) (by simp) ?_
        refine (AllReadyH.cons (o := { dst := some 23, op := Go.Op.call { callee := Go.Callee.builtin Go.Builtin.append, args := #[Go.Operand.tmp 18, Go.Operand.tmp 22], argTypes := #[26, 26] }, type := 26, pos := _, after := #[{ on := 0, ground := Go.Ground.data }, { on := 4, ground := Go.Ground.data }, { on := 2, ground := Go.Ground.chain }], guard := none }) rfl (fun K hK => ?_) AllReadyH.nil)
        refine push_step rfl _ _ rfl W w5 w.heap.size w.heap.size (w.heap.size + 1) Bx u acc (beginM t) t t _ 2 rfl N5.out (Nat.le_refl _) (by omega) rfl (by omega) ?_
        intro g cap w6 k1 k3 f
        have k1c := k1.cell
        have k1f := k1.frozen
        refine hK.out _ _ k3 (fun _ => ?_)
        clear hK K
        try simp only [Act.put, List.setIfInBounds_toArray, List.set_cons_zero, List.set_cons_succ]
        refine wpAnyH_ready (rs := [6]) (by kernel_rfl) (by simp) ?_
        refine (AllReadyH.cons (o := { dst := none, op := Go.Op.store 26 (Go.Operand.tmp 3) (Go.Operand.tmp 23), type := 0, pos := _, after := #[{ on := 5, ground := Go.Ground.data }, { on := 5, ground := Go.Ground.chain }, { on := 0, ground := Go.Ground.phase }, { on := 1, ground := Go.Ground.phase }, { on := 2, ground := Go.Ground.phase }, { on := 3, ground := Go.Ground.phase }, { on := 4, ground := Go.Ground.phase }, { on := 5, ground := Go.Ground.phase }], guard := none }) rfl (fun K hK => ?_) AllReadyH.nil)
        go_simp
        refine hK.out _ _ (tok_store k3 (by omega) _) (fun _ => ?_)
        clear hK K
        try simp only [Act.put, List.setIfInBounds_toArray, List.set_cons_zero, List.set_cons_succ]
        refine wpAnyH_done (by kernel_rfl) ?_ _
        exact ⟨f.oth.from _, f.kb, ⟨⟨_, f.box, by rw [HST.out]; exact f.own⟩, f.kb.2 _ bN1⟩, hB1.trans f.kb.1⟩
      · skip
        go_simp
        go_at_call 19
        refine (before_any t 16 _).mono ?_
        rintro e w5 ⟨rfl, hb5⟩
        have N5 := Lib.hid (NY.out.below hb5)
        clear hb5
        obtain ⟨c5, p0, p1, p2, p3⟩ := N5.out.cells
        have hS5 := N5.out.tok
        try dsimp only
        refine hK.out _ _ hS5 (fun _ => ?_)
        clear hK K
        try simp only [Act.put, List.setIfInBounds_toArray, List.set_cons_zero, List.set_cons_succ]
        refine wpAnyH_ready (rs := [0, 4]) (by kernel_rfl) (by simp) ?_
        refine (AllReadyH.cons (o := { dst := some 18, op := Go.Op.load 26 (Go.Operand.tmp 3), type := 26, pos := _, after := #[], guard := none }) rfl (fun K hK => ?_) (AllReadyH.cons (o := { dst := some 22, op := Go.Op.buildSlice 26 2 #[(0, Go.Operand.tmp 20), (1, Go.Operand.tmp 21)], type := 26, pos := _, after := #[{ on := 2, ground := Go.Ground.data }, { on := 3, ground := Go.Ground.data }], guard := none }) rfl (fun K hK => ?_) AllReadyH.nil))
        · skip
          go_simp
          refine hK.out _ _ hS5 (fun _ => ?_)
          clear hK K
          try simp only [Act.put, List.setIfInBounds_toArray, List.set_cons_zero, List.set_cons_succ]
          refine wpAnyH_ready (rs := [4]) (by kernel_rfl) (by simp) ?_
          refine (AllReadyH.cons (o := { dst := some 22, op := Go.Op.buildSlice 26 2 #[(0, Go.Operand.tmp 20), (1, Go.Operand.tmp 21)], type := 26, pos := _, after := #[{ on := 2, ground := Go.Ground.data }, { on := 3, ground := Go.Ground.data }], guard := none }) rfl (fun K hK => ?_) AllReadyH.nil)
          go_simp
          refine hK.out _ _ (hS5.kept (World.grownBy_alloc _ _ none) (by simp)) (fun _ => ?_)
          clear hK K
          try simp only [Act.put, List.setIfInBounds_toArray, List.set_cons_zero, List.set_cons_succ]
          refine wpAnyH_ready (rs := [5]) (by kernel_rfl) (by simp) ?_
          refine (AllReadyH.cons (o := { dst := some 23, op := Go.Op.call { callee := Go.Callee.builtin Go.Builtin.append, args := #[Go.Operand.tmp 18, Go.Operand.tmp 22], argTypes := #[26, 26] }, type := 26, pos := _, after := #[{ on := 0, ground := Go.Ground.data }, { on := 4, ground := Go.Ground.data }, { on := 2, ground := Go.Ground.chain }], guard := none }) rfl (fun K hK => ?_) AllReadyH.nil)
          refine push_step rfl _ _ rfl W w5 w.heap.size w.heap.size (w.heap.size + 1) Bx u acc (beginM t) t t _ 2 rfl N5.out (Nat.le_refl _) (by omega) rfl (by omega) ?_
          intro g cap w6 k1 k3 f
          have k1c := k1.cell
          have k1f := k1.frozen
          refine hK.out _ _ k3 (fun _ => ?_)
          clear hK K
          try simp only [Act.put, List.setIfInBounds_toArray, List.set_cons_zero, List.set_cons_succ]
          refine wpAnyH_ready (rs := [6]) (by kernel_rfl) (by simp) ?_
          refine (AllReadyH.cons (o := { dst := none, op := Go.Op.store 26 (Go.Operand.tmp 3) (Go.Operand.tmp 23), type := 0, pos := _, after := #[{ on := 5, ground := Go.Ground.data }, { on := 5, ground := Go.Ground.chain }, { on := 0, ground := Go.Ground.phase }, { on := 1, ground := Go.Ground.phase }, { on := 2, ground := Go.Ground.phase }, { on := 3, ground := Go.Ground.phase }, { on := 4, ground := Go.Ground.phase }, { on := 5, ground := Go.Ground.phase }], guard := none }) rfl (fun K hK => ?_) AllReadyH.nil)
          go_simp
          refine hK.out _ _ (tok_store k3 (by omega) _) (fun _ => ?_)
          clear hK K
          try simp only [Act.put, List.setIfInBounds_toArray, List.set_cons_zero, List.set_cons_succ]
          refine wpAnyH_done (by kernel_rfl) ?_ _
          exact ⟨f.oth.from _, f.kb, ⟨⟨_, f.box, by rw [HST.out]; exact f.own⟩, f.kb.2 _ bN1⟩, hB1.trans f.kb.1⟩
        · skip
          go_simp
          refine hK.out _ _ (hS5.kept (World.grownBy_alloc _ _ none) (by simp)) (fun _ => ?_)
          clear hK K
          try simp only [Act.put, List.setIfInBounds_toArray, List.set_cons_zero, List.set_cons_succ]
          have c6 : ∀ o : Obj, (w5.alloc o).cell? ⟨w.heap.size, 0, none⟩ = some u := fun o => (World.cell?_alloc_lt w5 (o := o) (a := ⟨w.heap.size, 0, none⟩) N5.out.box.lt).trans c5
          refine wpAnyH_ready (rs := [0]) (by kernel_rfl) (by simp) ?_
          refine (AllReadyH.cons (o := { dst := some 18, op := Go.Op.load 26 (Go.Operand.tmp 3), type := 26, pos := _, after := #[], guard := none }) rfl (fun K hK => ?_) AllReadyH.nil)
          go_simp
          refine hK.out _ _ (hS5.kept (World.grownBy_alloc _ _ none) (by simp)) (fun _ => ?_)
          clear hK K
          try simp only [Act.put, List.setIfInBounds_toArray, List.set_cons_zero, List.set_cons_succ]
          refine wpAnyH_ready (rs := [5]) (by kernel_rfl) (by simp) ?_
          refine (AllReadyH.cons (o := { dst := some 23, op := Go.Op.call { callee := Go.Callee.builtin Go.Builtin.append, args := #[Go.Operand.tmp 18, Go.Operand.tmp 22], argTypes := #[26, 26] }, type := 26, pos := _, after := #[{ on := 0, ground := Go.Ground.data }, { on := 4, ground := Go.Ground.data }, { on := 2, ground := Go.Ground.chain }], guard := none }) rfl (fun K hK => ?_) AllReadyH.nil)
          refine push_step rfl _ _ rfl W w5 w.heap.size w.heap.size (w.heap.size + 1) Bx u acc (beginM t) t t _ 2 rfl N5.out (Nat.le_refl _) (by omega) rfl (by omega) ?_
          intro g cap w6 k1 k3 f
          have k1c := k1.cell
          have k1f := k1.frozen
          refine hK.out _ _ k3 (fun _ => ?_)
          clear hK K
          try simp only [Act.put, List.setIfInBounds_toArray, List.set_cons_zero, List.set_cons_succ]
          refine wpAnyH_ready (rs := [6]) (by kernel_rfl) (by simp) ?_
          refine (AllReadyH.cons (o := { dst := none, op := Go.Op.store 26 (Go.Operand.tmp 3) (Go.Operand.tmp 23), type := 0, pos := _, after := #[{ on := 5, ground := Go.Ground.data }, { on := 5, ground := Go.Ground.chain }, { on := 0, ground := Go.Ground.phase }, { on := 1, ground := Go.Ground.phase }, { on := 2, ground := Go.Ground.phase }, { on := 3, ground := Go.Ground.phase }, { on := 4, ground := Go.Ground.phase }, { on := 5, ground := Go.Ground.phase }], guard := none }) rfl (fun K hK => ?_) AllReadyH.nil)
          go_simp
          refine hK.out _ _ (tok_store k3 (by omega) _) (fun _ => ?_)
          clear hK K
          try simp only [Act.put, List.setIfInBounds_toArray, List.set_cons_zero, List.set_cons_succ]
          refine wpAnyH_done (by kernel_rfl) ?_ _
          exact ⟨f.oth.from _, f.kb, ⟨⟨_, f.box, by rw [HST.out]; exact f.own⟩, f.kb.2 _ bN1⟩, hB1.trans f.kb.1⟩
    | false =>
      cases fb with
      | true =>
        gi_wp2_with (first
          | (refine ⟨trivial, ?_⟩; gi_at_call 18; refine (CallsIn.inRound lp (callsIn_wide.2 (C1.out _ hB1))).mono ?_; rintro e w1 ⟨rfl, hb1⟩; have N1 := Lib.hid (N0.out.below hb1); have HB1 := Lib.hid (hB1.trans (hb1.mono hB1.size)); clear hb1; obtain ⟨d0, y0, y1, y2, y3⟩ := N1.out.cells)
          | (refine ⟨trivial, ?_⟩; gi_at_call 20; refine (CallsIn.inRound lp (callsIn_wide.2 (C2.out _ HB1.out))).mono ?_; rintro e w2 ⟨rfl, hb2⟩; have N2 := Lib.hid (N1.out.below hb2); clear hb2; obtain ⟨e0, z0, z1, z2, z3⟩ := N2.out.cells))
        have hS1 : ObjAt w2.drew Bx (tkO t) := N2.out.tok
        have NY := Lib.hid (N2.out.below (below_drew _ w2))
        obtain ⟨cY, _, _, _, _⟩ := NY.out.cells
        refine region_round (S := fun W' => ObjAt W' Bx (tkO t)) (by kernel_rfl) (by rfl) (fun ⟨a, w, h⟩ => h) ?_
        refine wpAnyH_take (i := 1) (oi := { dst := some 29, op := Go.Op.load 23 (Go.Operand.tmp 4), type := 23, pos := _, after := #[], guard := none }) (v := (.agg #[.int .i64 t.kind, .string t.text, .int .i64 t.line, .int .i64 t.col])) rfl (by kernel_rfl) (by kernel_rfl) (by kernel_rfl) (fun _ _ _ h => h) (Or.inl ⟨by rfl, fun w2 hSw => by obtain ⟨y0, y1, y2, y3⟩ := tok4 hSw; go_simp⟩) hS1 ?_
        try simp only [Act.put, List.setIfInBounds_toArray, List.set_cons_zero, List.set_cons_succ]
        refine wpAnyH_take (i := 3) (oi := { dst := some 31, op := Go.Op.load 23 (Go.Operand.tmp 4), type := 23, pos := _, after := #[], guard := none }) (v := (.agg #[.int .i64 t.kind, .string t.text, .int .i64 t.line, .int .i64 t.col])) rfl (by kernel_rfl) (by kernel_rfl) (by kernel_rfl) (fun _ _ _ h => h) (Or.inl ⟨by rfl, fun w2 hSw => by obtain ⟨y0, y1, y2, y3⟩ := tok4 hSw; go_simp⟩) hS1 ?_
        try simp only [Act.put, List.setIfInBounds_toArray, List.set_cons_zero, List.set_cons_succ]
        refine wpAnyH_ready (rs := [0, 2]) (by kernel_rfl) (by simp) ?_
        refine (AllReadyH.cons (o := { dst := some 28, op := Go.Op.load 26 (Go.Operand.tmp 3), type := 26, pos := _, after := #[], guard := none }) rfl (fun K hK => ?_) (AllReadyH.cons (o := { dst := some 30, op := Go.Op.call { callee := Go.Callee.value (Go.Operand.func 19), args := #[Go.Operand.tmp 29, Go.Operand.const (Go.Value.int Go.IntKind.i64 17)], argTypes := #[23, 3] }, type := 23, pos := _, after := #[{ on := 1, ground := Go.Ground.data }], guard := none }) rfl (fun K hK => ?_) AllReadyH.nil))
        · skip
          go_simp
          refine hK.out _ _ hS1 (fun _ => ?_)
          clear hK K
          try simp only [Act.put, List.setIfInBounds_toArray, List.set_cons_zero, List.set_cons_succ]
          refine wpAnyH_ready (rs := [2]) (by kernel_rfl) (by simp) ?_
          refine (AllReadyH.cons (o := { dst := some 30, op := Go.Op.call { callee := Go.Callee.value (Go.Operand.func 19), args := #[Go.Operand.tmp 29, Go.Operand.const (Go.Value.int Go.IntKind.i64 17)], argTypes := #[23, 3] }, type := 23, pos := _, after := #[{ on := 1, ground := Go.Ground.data }], guard := none }) rfl (fun K hK => ?_) AllReadyH.nil)
          go_simp
          go_at_call 19
          refine (before_any t 17 _).mono ?_
          rintro e w5 ⟨rfl, hb5⟩
          have N5 := Lib.hid (NY.out.below hb5)
          clear hb5
          obtain ⟨c5, p0, p1, p2, p3⟩ := N5.out.cells
          have hS5 := N5.out.tok
          try dsimp only
          refine hK.out _ _ hS5 (fun _ => ?_)
          clear hK K
          try simp only [Act.put, List.setIfInBounds_toArray, List.set_cons_zero, List.set_cons_succ]
          refine wpAnyH_ready (rs := [4]) (by kernel_rfl) (by simp) ?_
          refine (AllReadyH.cons (o := { dst := some 32, op := Go.Op.buildSlice 26 2 #[(0, Go.Operand.tmp 30), (1, Go.Operand.tmp 31)], type := 26, pos := _, after := #[{ on := 2, ground := Go.Ground.data }, { on := 3, ground := Go.Ground.data }], guard := none }) rfl (fun K hK => ?_) AllReadyH.nil)
          go_simp
          refine hK.out _ _ (hS5.kept (World.grownBy_alloc _ _ none) (by simp)) (fun _ => ?_)
          clear hK K
          try simp only [Act.put, List.setIfInBounds_toArray, List.set_cons_zero, List.set_cons_succ]
          refine wpAnyH_ready (rs := [5]) (by kernel_rfl) (by simp) ?_
          refine (AllReadyH.cons (o := { dst := some 33, op := Go.Op.call { callee := Go.Callee.builtin Go.Builtin.append, args := #[Go.Operand.tmp 28, Go.Operand.tmp 32], argTypes := #[26, 26] }, type := 26, pos := _, after := #[{ on := 0, ground := Go.Ground.data }, { on := 4, ground := Go.Ground.data }, { on := 2, ground := Go.Ground.chain }], guard := none }) rfl (fun K hK => ?_) AllReadyH.nil)
          refine push_step rfl _ _ rfl W w5 w.heap.size w.heap.size (w.heap.size + 1) Bx u acc (lineM t) t t _ 2 rfl N5.out (Nat.le_refl _) (by omega) rfl (by omega) ?_
          intro g cap w6 k1 k3 f
          have k1c := k1.cell
          have k1f := k1.frozen
          refine hK.out _ _ k3 (fun _ => ?_)
          clear hK K
          try simp only [Act.put, List.setIfInBounds_toArray, List.set_cons_zero, List.set_cons_succ]
          refine wpAnyH_ready (rs := [6]) (by kernel_rfl) (by simp) ?_
          refine (AllReadyH.cons (o := { dst := none, op := Go.Op.store 26 (Go.Operand.tmp 3) (Go.Operand.tmp 33), type := 0, pos := _, after := #[{ on := 5, ground := Go.Ground.data }, { on := 5, ground := Go.Ground.chain }, { on := 0, ground := Go.Ground.phase }, { on := 1, ground := Go.Ground.phase }, { on := 2, ground := Go.Ground.phase }, { on := 3, ground := Go.Ground.phase }, { on := 4, ground := Go.Ground.phase }, { on := 5, ground := Go.Ground.phase }], guard := none }) rfl (fun K hK => ?_) AllReadyH.nil)
          go_simp
          refine hK.out _ _ (tok_store k3 (by omega) _) (fun _ => ?_)
          clear hK K
          try simp only [Act.put, List.setIfInBounds_toArray, List.set_cons_zero, List.set_cons_succ]
          refine wpAnyH_done (by kernel_rfl) ?_ _
          exact ⟨f.oth.from _, f.kb, ⟨⟨_, f.box, by rw [HST.out]; exact f.own⟩, f.kb.2 _ bN1⟩, hB1.trans f.kb.1⟩
        · skip
          go_simp
          go_at_call 19
          refine (before_any t 17 _).mono ?_
          rintro e w5 ⟨rfl, hb5⟩
          have N5 := Lib.hid (NY.out.below hb5)
          clear hb5
          obtain ⟨c5, p0, p1, p2, p3⟩ := N5.out.cells
          have hS5 := N5.out.tok
          try dsimp only
          refine hK.out _ _ hS5 (fun _ => ?_)
          clear hK K
          try simp only [Act.put, List.setIfInBounds_toArray, List.set_cons_zero, List.set_cons_succ]
          refine wpAnyH_ready (rs := [0, 4]) (by kernel_rfl) (by simp) ?_
          refine (AllReadyH.cons (o := { dst := some 28, op := Go.Op.load 26 (Go.Operand.tmp 3), type := 26, pos := _, after := #[], guard := none }) rfl (fun K hK => ?_) (AllReadyH.cons (o := { dst := some 32, op := Go.Op.buildSlice 26 2 #[(0, Go.Operand.tmp 30), (1, Go.Operand.tmp 31)], type := 26, pos := _, after := #[{ on := 2, ground := Go.Ground.data }, { on := 3, ground := Go.Ground.data }], guard := none }) rfl (fun K hK => ?_) AllReadyH.nil))
          · skip
            go_simp
            refine hK.out _ _ hS5 (fun _ => ?_)
            clear hK K
            try simp only [Act.put, List.setIfInBounds_toArray, List.set_cons_zero, List.set_cons_succ]
            refine wpAnyH_ready (rs := [4]) (by kernel_rfl) (by simp) ?_
            refine (AllReadyH.cons (o := { dst := some 32, op := Go.Op.buildSlice 26 2 #[(0, Go.Operand.tmp 30), (1, Go.Operand.tmp 31)], type := 26, pos := _, after := #[{ on := 2, ground := Go.Ground.data }, { on := 3, ground := Go.Ground.data }], guard := none }) rfl (fun K hK => ?_) AllReadyH.nil)
            go_simp
            refine hK.out _ _ (hS5.kept (World.grownBy_alloc _ _ none) (by simp)) (fun _ => ?_)
            clear hK K
            try simp only [Act.put, List.setIfInBounds_toArray, List.set_cons_zero, List.set_cons_succ]
            refine wpAnyH_ready (rs := [5]) (by kernel_rfl) (by simp) ?_
            refine (AllReadyH.cons (o := { dst := some 33, op := Go.Op.call { callee := Go.Callee.builtin Go.Builtin.append, args := #[Go.Operand.tmp 28, Go.Operand.tmp 32], argTypes := #[26, 26] }, type := 26, pos := _, after := #[{ on := 0, ground := Go.Ground.data }, { on := 4, ground := Go.Ground.data }, { on := 2, ground := Go.Ground.chain }], guard := none }) rfl (fun K hK => ?_) AllReadyH.nil)
            refine push_step rfl _ _ rfl W w5 w.heap.size w.heap.size (w.heap.size + 1) Bx u acc (lineM t) t t _ 2 rfl N5.out (Nat.le_refl _) (by omega) rfl (by omega) ?_
            intro g cap w6 k1 k3 f
            have k1c := k1.cell
            have k1f := k1.frozen
            refine hK.out _ _ k3 (fun _ => ?_)
            clear hK K
            try simp only [Act.put, List.setIfInBounds_toArray, List.set_cons_zero, List.set_cons_succ]
            refine wpAnyH_ready (rs := [6]) (by kernel_rfl) (by simp) ?_
            refine (AllReadyH.cons (o := { dst := none, op := Go.Op.store 26 (Go.Operand.tmp 3) (Go.Operand.tmp 33), type := 0, pos := _, after := #[{ on := 5, ground := Go.Ground.data }, { on := 5, ground := Go.Ground.chain }, { on := 0, ground := Go.Ground.phase }, { on := 1, ground := Go.Ground.phase }, { on := 2, ground := Go.Ground.phase }, { on := 3, ground := Go.Ground.phase }, { on := 4, ground := Go.Ground.phase }, { on := 5, ground := Go.Ground.phase }], guard := none }) rfl (fun K hK => ?_) AllReadyH.nil)
            go_simp
            refine hK.out _ _ (tok_store k3 (by omega) _) (fun _ => ?_)
            clear hK K
            try simp only [Act.put, List.setIfInBounds_toArray, List.set_cons_zero, List.set_cons_succ]
            refine wpAnyH_done (by kernel_rfl) ?_ _
            exact ⟨f.oth.from _, f.kb, ⟨⟨_, f.box, by rw [HST.out]; exact f.own⟩, f.kb.2 _ bN1⟩, hB1.trans f.kb.1⟩
          · skip
            go_simp
            refine hK.out _ _ (hS5.kept (World.grownBy_alloc _ _ none) (by simp)) (fun _ => ?_)
            clear hK K
            try simp only [Act.put, List.setIfInBounds_toArray, List.set_cons_zero, List.set_cons_succ]
            have c6 : ∀ o : Obj, (w5.alloc o).cell? ⟨w.heap.size, 0, none⟩ = some u := fun o => (World.cell?_alloc_lt w5 (o := o) (a := ⟨w.heap.size, 0, none⟩) N5.out.box.lt).trans c5
            refine wpAnyH_ready (rs := [0]) (by kernel_rfl) (by simp) ?_
            refine (AllReadyH.cons (o := { dst := some 28, op := Go.Op.load 26 (Go.Operand.tmp 3), type := 26, pos := _, after := #[], guard := none }) rfl (fun K hK => ?_) AllReadyH.nil)
            go_simp
            refine hK.out _ _ (hS5.kept (World.grownBy_alloc _ _ none) (by simp)) (fun _ => ?_)
            clear hK K
            try simp only [Act.put, List.setIfInBounds_toArray, List.set_cons_zero, List.set_cons_succ]
            refine wpAnyH_ready (rs := [5]) (by kernel_rfl) (by simp) ?_
            refine (AllReadyH.cons (o := { dst := some 33, op := Go.Op.call { callee := Go.Callee.builtin Go.Builtin.append, args := #[Go.Operand.tmp 28, Go.Operand.tmp 32], argTypes := #[26, 26] }, type := 26, pos := _, after := #[{ on := 0, ground := Go.Ground.data }, { on := 4, ground := Go.Ground.data }, { on := 2, ground := Go.Ground.chain }], guard := none }) rfl (fun K hK => ?_) AllReadyH.nil)
            refine push_step rfl _ _ rfl W w5 w.heap.size w.heap.size (w.heap.size + 1) Bx u acc (lineM t) t t _ 2 rfl N5.out (Nat.le_refl _) (by omega) rfl (by omega) ?_
            intro g cap w6 k1 k3 f
            have k1c := k1.cell
            have k1f := k1.frozen
            refine hK.out _ _ k3 (fun _ => ?_)
            clear hK K
            try simp only [Act.put, List.setIfInBounds_toArray, List.set_cons_zero, List.set_cons_succ]
            refine wpAnyH_ready (rs := [6]) (by kernel_rfl) (by simp) ?_
            refine (AllReadyH.cons (o := { dst := none, op := Go.Op.store 26 (Go.Operand.tmp 3) (Go.Operand.tmp 33), type := 0, pos := _, after := #[{ on := 5, ground := Go.Ground.data }, { on := 5, ground := Go.Ground.chain }, { on := 0, ground := Go.Ground.phase }, { on := 1, ground := Go.Ground.phase }, { on := 2, ground := Go.Ground.phase }, { on := 3, ground := Go.Ground.phase }, { on := 4, ground := Go.Ground.phase }, { on := 5, ground := Go.Ground.phase }], guard := none }) rfl (fun K hK => ?_) AllReadyH.nil)
            go_simp
            refine hK.out _ _ (tok_store k3 (by omega) _) (fun _ => ?_)
            clear hK K
            try simp only [Act.put, List.setIfInBounds_toArray, List.set_cons_zero, List.set_cons_succ]
            refine wpAnyH_done (by kernel_rfl) ?_ _
            exact ⟨f.oth.from _, f.kb, ⟨⟨_, f.box, by rw [HST.out]; exact f.own⟩, f.kb.2 _ bN1⟩, hB1.trans f.kb.1⟩
      | false =>
        gi_wp2_with (first
          | (refine ⟨trivial, ?_⟩; gi_at_call 18; refine (CallsIn.inRound lp (callsIn_wide.2 (C1.out _ hB1))).mono ?_; rintro e w1 ⟨rfl, hb1⟩; have N1 := Lib.hid (N0.out.below hb1); have HB1 := Lib.hid (hB1.trans (hb1.mono hB1.size)); clear hb1; obtain ⟨d0, y0, y1, y2, y3⟩ := N1.out.cells)
          | (refine ⟨trivial, ?_⟩; gi_at_call 20; refine (CallsIn.inRound lp (callsIn_wide.2 (C2.out _ HB1.out))).mono ?_; rintro e w2 ⟨rfl, hb2⟩; have N2 := Lib.hid (N1.out.below hb2); clear hb2; obtain ⟨e0, z0, z1, z2, z3⟩ := N2.out.cells)
          | (gi_at_builtin; refine push_box rfl _ _ rfl w2 w.heap.size w.heap.size (w.heap.size + 1) u acc t _ 1 rfl N2.out.box N2.out.own N2.out.size (Nat.le_refl _) (by omega) rfl (by omega) ?_; intro g' cap' w3 k1 k2; have k1c := k1.cell; have k1f := k1.frozen))
        have f := N2.out.fwd k2
        exact ⟨f.oth.from _, f.kb, ⟨⟨_, f.box, by rw [HST.out]; exact f.own⟩, f.kb.2 _ bN1⟩, hB1.trans f.kb.1⟩
  case done =>
    rintro D zs W hD rfl ⟨⟨⟨v1, bS1, hrow⟩, bN1⟩, hB1⟩ hK
    have cS := bS1.cell
    have hfin := markP_all nlS l
    have hml := markP_len nlS (List.finRange l.length)
    rw [List.length_finRange] at hml
    have hDw : D < W.heap.size := (Array.getElem?_eq_some_iff.1 hK).1
    generalize markP nlS (List.finRange l.length) = acc at *
    by_cases hl : l.length = 0
    · have ho : opA l l.length = true := by rw [hl]; rfl
      rw [ho, if_pos rfl] at hfin
      have HF := Lib.hid hfin
      have hl0 : ((l.length : Int) == 0) = true := by rw [hl]; rfl
      clear hfin ho
      gi_wp2_with fail
      refine ⟨trivial, ?_⟩
      gi_wp2_with (gi_at_builtin; refine push_box rfl _ _ rfl W w.heap.size w.heap.size (w.heap.size + 1) v1 acc lastM _ 1 rfl bS1 hrow hB1.size (Nat.le_refl _) (by omega) rfl (by omega) ?_; intro g' cap' w3 k1 k2; have k1c := k1.cell; have k1f := k1.frozen; have k2c := k2.box.cell)
      have hK2 := k2.oth.same D _ hK rfl
      refine ⟨by simp, .inl ⟨_, _, rfl, run_takeDeferred hK2, ?_⟩⟩
      refine ⟨_, results_tmp rfl _ _ _, _, rfl, ?_, (hB1.trans k2.kb.1).trans (belowK_b (w := w) (Nat.le_refl _) _ D _ _ (by omega) hK2 rfl rfl)⟩
      rw [← HF.out]
      exact ownsRow_putObj k2.own (.deferred none) hK2 rfl
    · obtain ⟨b, off, cc, e1, hb1, hb2⟩ := hA.cells hl
      simp only [Value.slice.injEq] at e1
      obtain ⟨rfl, -, rfl⟩ := e1
      have HI : TkIn W b off l := TkIn.below (w := w) ⟨hb1, hb2⟩ hB1 (Nat.le_refl _)
      obtain ⟨m, hm2⟩ : ∃ m, l.length = m + 1 := ⟨l.length - 1, by omega⟩
      have hmt : l[m]? = some (prevA l (m + 1)) := by
        rw [prevA_at (by omega)]
        exact List.getElem?_eq_getElem (by omega)
      obtain ⟨x0, x1, x2, x3⟩ := HI.four m _ hmt
      have ho : opA l l.length = opensT (prevA l (m + 1)) := by rw [hm2]; rfl
      rw [ho] at hfin
      have HF := Lib.hid hfin
      generalize prevA l (m + 1) = t at *
      have hl0 : ((l.length : Int) == 0) = false := by rw [beq_eq_false_iff_ne]; omega
      have hw1 : IntKind.i64.wrap ((l.length : Int) - 1) = (m : Int) := by rw [IntWalk.i64_left, IntWalk.wrap64_in _ ⟨by omega, by omega⟩]; omega
      have hw2 : wrap64 ((l.length : Int) - 1) = (m : Int) := by rw [IntWalk.wrap64_in _ ⟨by omega, by omega⟩]; omega
      have i0 : (0 : Int) ≤ (m : Int) := by omega
      have i1 : (m : Int) < (l.length : Int) := by omega
      have HL := Lib.hid hm2
      have N : Mids w.heap.size w.heap.size (w.heap.size + 1) 0 W W v1 acc t → True := fun _ => trivial
      clear hfin ho hmt hm2 hl N
      obtain ⟨ob, hob⟩ : ∃ ob, opensT t = ob := ⟨_, rfl⟩
      have C3 : Hid (∀ W', Calls Try.prog 10 #[tkV t] W' fun e w' => e = .returned (.bool ob) ∧ Below W'.heap.size W' w') := fun W' => by rw [← hob]; exact opens_any t W'
      unfold tkV at C3
      rw [hob] at HF
      clear hob
      cases ob with
      | true =>
        gi_wp2_with (first
          | (refine ⟨trivial, ?_⟩; gi_at_call 10; refine (callsIn_wide.2 (C3.out _)).mono ?_; rintro e w1 ⟨rfl, hb9⟩; have bS2 : Boxed w1 w.heap.size 26 v1 := (hb9.block _ bS1.lt).trans bS1; have r2 := hrow.below hb9 (Nat.le_refl _); have B2 := hB1.trans (hb9.mono hB1.size); have hK1 := (hb9.block D hDw).trans hK; have c9 := bS2.cell; clear hb9)
          | (gi_at_builtin; refine push_box rfl _ _ rfl w1 w.heap.size w.heap.size (w.heap.size + 1) v1 acc lastM _ 1 rfl bS2 r2 B2.size (Nat.le_refl _) (by omega) rfl (by omega) ?_; intro g' cap' w3 k1 k2; have k1c := k1.cell; have k1f := k1.frozen; have k2c := k2.box.cell))
        have hK2 := k2.oth.same D _ hK1 rfl
        refine ⟨by simp, .inl ⟨_, _, rfl, run_takeDeferred hK2, ?_⟩⟩
        refine ⟨_, results_tmp rfl _ _ _, _, rfl, ?_, (B2.trans k2.kb.1).trans (belowK_b (w := w) (Nat.le_refl _) _ D _ _ (by omega) hK2 rfl rfl)⟩
        rw [← HF.out]
        exact ownsRow_putObj k2.own (.deferred none) hK2 rfl
      | false =>
        gi_wp2_with (first
          | (refine ⟨trivial, ?_⟩; gi_at_call 10; refine (callsIn_wide.2 (C3.out _)).mono ?_; rintro e w1 ⟨rfl, hb9⟩; have bS2 : Boxed w1 w.heap.size 26 v1 := (hb9.block _ bS1.lt).trans bS1; have r2 := hrow.below hb9 (Nat.le_refl _); have B2 := hB1.trans (hb9.mono hB1.size); have hK1 := (hb9.block D hDw).trans hK; have c9 := bS2.cell; clear hb9))
        refine ⟨by simp, .inl ⟨_, _, rfl, run_takeDeferred hK1, ?_⟩⟩
        refine ⟨_, results_tmp rfl _ _ _, _, rfl, ?_, B2.trans (belowK_b (w := w) (Nat.le_refl _) _ D _ _ (by omega) hK1 rfl rfl)⟩
        rw [← HF.out]
        simp only [Bool.false_eq_true, if_false, List.append_nil]
        exact ownsRow_putObj r2 (.deferred none) hK1 rfl
  case stop =>
    rintro D c pre W _ _ h _
    exact h.elim
end Go.Proofs.Ythjckmoobbpidaa.Mrk
