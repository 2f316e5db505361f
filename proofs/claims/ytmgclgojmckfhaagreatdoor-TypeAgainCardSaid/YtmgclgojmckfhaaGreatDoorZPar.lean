/-
  The program's parser: its block; is, isName, wrong, node. Conditions: sizes that are borne.
-/
import Derived.Test.YtmgclgojmckfhaaGreatDoorZTypB
import Derived.Test.YtmgclgojmckfhaaGreatDoorZDoe
namespace Go.Proofs.YtmgclgojmckfhaaGreatDoor.Typ
open Tks Tre Go.RowKit
open Lay (Sx StV Fit9 nextS NextOut tkV9 IntArg Kp)
set_option linter.unusedSimpArgs false
set_option linter.unusedVariables false

/-- A parser's block. -/
def parO (tv : Value) (a : Int) (ov : Value) (wt : Int) (t : Tk) (tv2 : Value) (a2 : Int) (ov2 : Value) (wt2 e : Int) : Obj := .cells #[tv, .int .i64 a, ov, .int .i64 wt, .int .i64 t.kind, .string t.text, .int .i64 t.line, .int .i64 t.col, tv2, .int .i64 a2, ov2, .int .i64 wt2, .int .i64 e] 62
theorem thirteen {W : World} {B : Nat} {tv ov tv2 ov2 : Value} {a wt a2 wt2 e : Int} {t : Tk} (q : Lies W B (parO tv a ov wt t tv2 a2 ov2 wt2 e)) :
    W.cell? ⟨B, 0, none⟩ = some tv ∧ W.cell? ⟨B, 1, none⟩ = some (.int .i64 a) ∧ W.cell? ⟨B, 2, none⟩ = some ov ∧ W.cell? ⟨B, 3, none⟩ = some (.int .i64 wt) ∧ W.cell? ⟨B, 4, none⟩ = some (.int .i64 t.kind) ∧ W.cell? ⟨B, 5, none⟩ = some (.string t.text) ∧ W.cell? ⟨B, 6, none⟩ = some (.int .i64 t.line) ∧ W.cell? ⟨B, 7, none⟩ = some (.int .i64 t.col) ∧ W.cell? ⟨B, 8, none⟩ = some tv2 ∧ W.cell? ⟨B, 9, none⟩ = some (.int .i64 a2) ∧ W.cell? ⟨B, 10, none⟩ = some ov2 ∧ W.cell? ⟨B, 11, none⟩ = some (.int .i64 wt2) ∧ W.cell? ⟨B, 12, none⟩ = some (.int .i64 e) :=
  ⟨(Lies.cell q 0).trans rfl, (Lies.cell q 1).trans rfl, (Lies.cell q 2).trans rfl, (Lies.cell q 3).trans rfl, (Lies.cell q 4).trans rfl, (Lies.cell q 5).trans rfl, (Lies.cell q 6).trans rfl, (Lies.cell q 7).trans rfl, (Lies.cell q 8).trans rfl, (Lies.cell q 9).trans rfl, (Lies.cell q 10).trans rfl, (Lies.cell q 11).trans rfl, (Lies.cell q 12).trans rfl⟩
theorem thirteen_fr {W : World} {B : Nat} {tv ov tv2 ov2 : Value} {a wt a2 wt2 e : Int} {t : Tk} (q : Lies W B (parO tv a ov wt t tv2 a2 ov2 wt2 e)) :
    W.frozen? ⟨B, 0, none⟩ = false ∧ W.frozen? ⟨B, 1, none⟩ = false ∧ W.frozen? ⟨B, 2, none⟩ = false ∧ W.frozen? ⟨B, 3, none⟩ = false ∧ W.frozen? ⟨B, 4, none⟩ = false ∧ W.frozen? ⟨B, 5, none⟩ = false ∧ W.frozen? ⟨B, 6, none⟩ = false ∧ W.frozen? ⟨B, 7, none⟩ = false ∧ W.frozen? ⟨B, 8, none⟩ = false ∧ W.frozen? ⟨B, 9, none⟩ = false ∧ W.frozen? ⟨B, 10, none⟩ = false ∧ W.frozen? ⟨B, 11, none⟩ = false ∧ W.frozen? ⟨B, 12, none⟩ = false :=
  ⟨q.free 0, q.free 1, q.free 2, q.free 3, q.free 4, q.free 5, q.free 6, q.free 7, q.free 8, q.free 9, q.free 10, q.free 11, q.free 12⟩
/-- A parser that stands at a state. -/
def Par (W : World) (P : Nat → Prop) (pb : Nat) (s : Sx) : Prop := ∃ (ta1 : Option Addr) (tc1 : Nat) (oa1 : Option Addr) (oc1 : Nat) (ta2 : Option Addr) (tc2 : Nat) (oa2 : Option Addr) (oc2 : Nat), Lies W pb (parO (.slice ta1 s.toks.length tc1) s.at_ (.slice oa1 s.opn.length oc1) s.wait (tk s) (.slice ta2 (nx s).toks.length tc2) (nx s).at_ (.slice oa2 (nx s).opn.length oc2) (nx s).wait (er s)) ∧ StOn W P (.slice ta1 s.toks.length tc1) (.slice oa1 s.opn.length oc1) s ∧ StOn W P (.slice ta2 (nx s).toks.length tc2) (.slice oa2 (nx s).opn.length oc2) (nx s)
theorem Par.lt {W : World} {P : Nat → Prop} {pb : Nat} {s : Sx} (h : Par W P pb s) : pb < W.heap.size := by
  obtain ⟨_, _, _, _, _, _, _, _, h, _⟩ := h
  exact h.lt
theorem Par.kept {W W' : World} {P P' : Nat → Prop} {pb : Nat} {s : Sx} (h : Par W P pb s) (hs : W.heap.size ≤ W'.heap.size) (hp : W'.heap[pb]? = W.heap[pb]?) (hk : ∀ b, b < W.heap.size → P b → W'.heap[b]? = W.heap[b]? ∧ P' b) : Par W' P' pb s := by
  obtain ⟨a, b, c, d, e, f, g, i, h1, h2, h3⟩ := h
  exact ⟨a, b, c, d, e, f, g, i, hp.trans h1, h2.kept hs hk, h3.kept hs hk⟩
theorem Par.below {W W' : World} {P : Nat → Prop} {pb : Nat} {s : Sx} (h : Par W P pb s) (hb : Below W.heap.size W W') : Par W' P pb s :=
  h.kept hb.size (hb.block pb h.lt) (fun b hlt hp => ⟨hb.block b hlt, hp⟩)
theorem Par.less {W : World} {P P' : Nat → Prop} {pb : Nat} {s : Sx} (h : Par W P pb s) (hk : ∀ b, b < W.heap.size → P b → P' b) : Par W P' pb s := h.kept (Nat.le_refl _) rfl (fun b hb hp => ⟨rfl, hk b hb hp⟩)
theorem Par.move {W W' : World} {P : Nat → Prop} {pb : Nat} {s : Sx} {v v' : Value} (h : Par W (Px P v) pb s) (m : Mv W W' v v') (hv : v.ownBlock ≠ some pb) : Par W' (Px P v') pb s :=
  h.kept m.grown.size (m.grown.block pb h.lt (fun e => hv e.symm)) m.px
theorem Par.lit {W : World} {P : Nat → Prop} {pb : Nat} {s : Sx} (h : Par W P pb s) (o : Obj) (n c : Nat) : Par (W.alloc o) (Px P (.slice (some ⟨W.heap.size, 0, none⟩) n c)) pb s :=
  h.kept (below_one W o).size ((below_one W o).block pb h.lt) (fun b hb hp => ⟨(below_one W o).block b hb, hp, fun e => by
    have e2 : W.heap.size = b := by simpa [Value.ownBlock] using e
    omega⟩)
set_option maxRecDepth 1000000 in
set_option maxHeartbeats 400000 in
theorem pis_any (P : Nat → Prop) (pb : Nat) (s : Sx) (k : Int) (hk : k ≠ 0) (c : ByteArray) (w : World) (h : Par w P pb s) :
    Calls Tryz.prog 26 #[.pointer (some ⟨pb, 0, none⟩), .int .i64 k, .string c] w fun e w' => e = .returned (.bool (isR s k c.data.toList)) ∧ w = w' := by
  obtain ⟨ta1, tc1, oa1, oc1, ta2, tc2, oa2, oc2, hp, -, -⟩ := h
  have hr := is_zero (s := s) k c.data.toList hk
  rw [← Lib.toList_data, ← Lib.toList_data] at hr
  rw [← Lib.toList_data]
  generalize isR s k c.toList = r at *
  obtain ⟨c0, c1, c2, c3, c4, c5, c6, c7, c8, c9, c10, c11, c12⟩ := thirteen hp
  generalize tk s = t at *
  have HR := Lib.hid hr
  clear hp hr hk
  go_enter Tryz.func26, Tryz.ntmps26
  cases x1 : (t.kind == k) with
  | false =>
    rw [x1] at HR
    have HE : Hid (r = false) := HR.out
    clear HR
    go_wp2_with fail
    go_ret
    exact ⟨by rw [HE.out]; rfl, rfl⟩
  | true =>
    rw [x1] at HR
    have HE : Hid (r = (t.text.toList == c.toList)) := HR.out
    clear HR
    go_wp2_with fail
    go_ret
    exact ⟨by rw [HE.out]; rfl, rfl⟩
/-- A name. -/
def nameB (t : Tk) : Bool := t.kind == 1 || (t.kind == 2 || t.kind == 4)
set_option maxRecDepth 1000000 in
set_option maxHeartbeats 400000 in
theorem pname_any (P : Nat → Prop) (pb : Nat) (s : Sx) (w : World) (h : Par w P pb s) :
    Calls Tryz.prog 51 #[.pointer (some ⟨pb, 0, none⟩)] w fun e w' => e = .returned (.bool (nameB (tk s))) ∧ w = w' := by
  obtain ⟨ta1, tc1, oa1, oc1, ta2, tc2, oa2, oc2, hp, -, -⟩ := h
  obtain ⟨c0, c1, c2, c3, c4, c5, c6, c7, c8, c9, c10, c11, c12⟩ := thirteen hp
  generalize tk s = t at *
  clear hp
  obtain ⟨r, hr⟩ : ∃ r, nameB t = r := ⟨_, rfl⟩
  rw [hr]
  unfold nameB at hr
  have HR := Lib.hid hr
  clear hr
  go_enter Tryz.func51, Tryz.ntmps51
  cases x1 : (t.kind == 1) with
  | true =>
    rw [x1] at HR
    have HE : Hid (true = r) := HR.out
    clear HR
    go_wp2_with fail
    go_ret
    exact ⟨by rw [← HE.out]; rfl, rfl⟩
  | false =>
    rw [x1] at HR
    cases x2 : (t.kind == 2) with
    | true =>
      rw [x2] at HR
      have HE : Hid (true = r) := HR.out
      clear HR
      go_wp2_with fail
      go_ret
      exact ⟨by rw [← HE.out]; rfl, rfl⟩
    | false =>
      rw [x2] at HR
      cases x3 : (t.kind == 4) with
      | true =>
        rw [x3] at HR
        have HE : Hid (true = r) := HR.out
        clear HR
        go_wp2_with fail
        go_ret
        exact ⟨by rw [← HE.out]; rfl, rfl⟩
      | false =>
        rw [x3] at HR
        have HE : Hid (false = r) := HR.out
        clear HR
        go_wp2_with fail
        go_ret
        exact ⟨by rw [← HE.out]; rfl, rfl⟩
theorem res_nd {fn : Func} {c : Tmp} (hf : fn.results = #[.cell c 30]) {tmps : Array Value} {w : World} {B : Nat} {h : Hd} {ka : Option Addr} {kn kc : Nat} (hc : tmps.getD c undef = .pointer (some ⟨B, 0, none⟩)) (hl : Lies w B (ndO h (.slice ka kn kc))) :
    (results fn tmps).run Tryz.prog w = .ok (ndV h (.slice ka kn kc)) w := by
  obtain ⟨⟨k0, k1, k2, k3, k4, k5⟩, -⟩ := hl.nodef
  have hc2 : tmps[c]?.getD undef = .pointer (some ⟨B, 0, none⟩) := by
    rw [← Array.getD_eq_getD_getElem?]
    exact hc
  unfold ndV
  simp [results, hf, hc2, go_sem, k0, k1, k2, k3, k4, k5]
def zNd : Obj := ndO ⟨0, 0, ⟨#[]⟩, 0, 0⟩ (.slice none 0 0)
set_option maxRecDepth 1000000 in
set_option maxHeartbeats 400000 in
theorem node_any (kind : Int) (ka : Option Addr) (kn kc : Nat) (w : World) :
    Calls Tryz.prog 27 #[.int .i64 kind, .slice ka kn kc] w fun e w' => e = .returned (ndV (nodeH kind) (.slice ka kn kc)) ∧ Below w.heap.size w w' := by
  go_enter Tryz.func27, Tryz.ntmps27
  go_upto_region 1 with fail
  refine gen_world (fun X => Below w.heap.size w X ∧ Lies X w.heap.size zNd) ⟨below_one w _, Lies.new w _⟩ ?_
  rintro X ⟨bX, lX⟩
  have BX := Lib.hid bX
  unfold zNd at lX
  obtain ⟨⟨c0, c1, c2, c3, c4, c5⟩, f0, f1, f2, f3, f4, f5⟩ := lX.nodef
  have LX := Lib.hid lX
  clear bX lX
  go_wp2_with fail
  refine bodyPost_ret (res_nd Tryz.results27 rfl (Lies.all6 LX.out (nodeH kind) (.slice ka kn kc))) rfl ?_
  exact ⟨rfl, set6_below BX.out (Nat.le_refl _) ..⟩
/-- What a fault's block holds. -/
def fltO (tv : Value) (a : Int) (ov : Value) (wt e : Int) : Obj := .cells #[tv, .int .i64 a, ov, .int .i64 wt, .int .i64 e] 59
def fltV (tv : Value) (a : Int) (ov : Value) (wt e : Int) : Value := .agg #[tv, .int .i64 a, ov, .int .i64 wt, .int .i64 e]
theorem five {W : World} {B : Nat} {tv ov : Value} {a wt e : Int} (q : Lies W B (fltO tv a ov wt e)) : (W.cell? ⟨B, 0, none⟩ = some tv ∧ W.cell? ⟨B, 1, none⟩ = some (.int .i64 a) ∧ W.cell? ⟨B, 2, none⟩ = some ov ∧ W.cell? ⟨B, 3, none⟩ = some (.int .i64 wt) ∧ W.cell? ⟨B, 4, none⟩ = some (.int .i64 e)) ∧
    W.frozen? ⟨B, 0, none⟩ = false ∧ W.frozen? ⟨B, 1, none⟩ = false ∧ W.frozen? ⟨B, 2, none⟩ = false ∧ W.frozen? ⟨B, 3, none⟩ = false ∧ W.frozen? ⟨B, 4, none⟩ = false :=
  ⟨⟨(Lies.cell q 0).trans rfl, (Lies.cell q 1).trans rfl, (Lies.cell q 2).trans rfl, (Lies.cell q 3).trans rfl, (Lies.cell q 4).trans rfl⟩, q.free 0, q.free 1, q.free 2, q.free 3, q.free 4⟩
def set5 (W : World) (B : Nat) (tv : Value) (a : Int) (ov : Value) (wt e : Int) : World := ((((W.setCell ⟨B, 0, none⟩ tv).setCell ⟨B, 1, none⟩ (.int .i64 a)).setCell ⟨B, 2, none⟩ ov).setCell ⟨B, 3, none⟩ (.int .i64 wt)).setCell ⟨B, 4, none⟩ (.int .i64 e)
theorem set5_lies {W : World} {B : Nat} {tv ov : Value} {a wt e : Int} (q : Lies W B (fltO tv a ov wt e)) (tv' : Value) (a' : Int) (ov' : Value) (wt' e' : Int) : Lies (set5 W B tv' a' ov' wt' e') B (fltO tv' a' ov' wt' e') :=
  Lies.put (Lies.put (Lies.put (Lies.put (Lies.put q 0 _) 1 _) 2 _) 3 _) 4 _
theorem set5_below {n B : Nat} {W W1 : World} (h : Below n W W1) (hB : n ≤ B) (tv : Value) (a : Int) (ov : Value) (wt e : Int) : Below n W (set5 W1 B tv a ov wt e) :=
  ((((h.setCell (p := ⟨B, 0, none⟩) hB _).setCell (p := ⟨B, 1, none⟩) hB _).setCell (p := ⟨B, 2, none⟩) hB _).setCell (p := ⟨B, 3, none⟩) hB _).setCell (p := ⟨B, 4, none⟩) hB _
theorem res_flt {fn : Func} {c : Tmp} (hf : fn.results = #[.cell c 59]) {tmps : Array Value} {w : World} {B : Nat} {ta oa : Option Addr} {tn tc on oc : Nat} {a wt e : Int} (hc : tmps.getD c undef = .pointer (some ⟨B, 0, none⟩)) (hl : Lies w B (fltO (.slice ta tn tc) a (.slice oa on oc) wt e)) :
    (results fn tmps).run Tryz.prog w = .ok (fltV (.slice ta tn tc) a (.slice oa on oc) wt e) w := by
  obtain ⟨⟨k0, k1, k2, k3, k4⟩, -⟩ := five hl
  have hc2 : tmps[c]?.getD undef = .pointer (some ⟨B, 0, none⟩) := by
    rw [← Array.getD_eq_getD_getElem?]
    exact hc
  unfold fltV
  simp [results, hf, hc2, go_sem, k0, k1, k2, k3, k4]
theorem StOn.drew {W : World} {P : Nat → Prop} {tv ov : Value} {s : Sx} (h : StOn W P tv ov s) : StOn W.drew P tv ov s := h.kept (Nat.le_refl _) (fun b _ q => ⟨rfl, q⟩)
theorem bel_drew {n : Nat} {W W' : World} (h : Below n W W') : Below n W W'.drew := ⟨h.os, h.tape, h.output, h.size, h.block⟩
theorem lies_drew {W : World} {B : Nat} {o : Obj} (h : Lies W B o) : Lies W.drew B o := h
set_option maxRecDepth 1000000 in
set_option maxHeartbeats 400000 in
theorem wrong_any (P : Nat → Prop) (pb : Nat) (s : Sx) (w : World) (h : Par w P pb s) :
    Calls Tryz.prog 69 #[.pointer (some ⟨pb, 0, none⟩)] w fun e w' => ∃ ta tc oa oc, e = .returned (fltV (.slice ta s.toks.length tc) s.at_ (.slice oa s.opn.length oc) s.wait (badR s).e) ∧ StOn w' P (.slice ta s.toks.length tc) (.slice oa s.opn.length oc) s ∧ Below w.heap.size w w' := by
  obtain ⟨ta1, tc1, oa1, oc1, ta2, tc2, oa2, oc2, hp, hs, -⟩ := h
  have HS := Lib.hid hs
  have HB : Hid ((badR s).e = if er s = 0 then 110 else er s) := by
    unfold Hid badR
    split <;> rfl
  generalize (badR s).e = x at *
  generalize nx s = s2 at *
  generalize tk s = t at *
  generalize er s = e at *
  have HP := Lib.hid hp
  clear hs hp
  go_enter Tryz.func69, Tryz.ntmps69
  go_upto_region 1 with fail
  refine gen_world (fun X => Below w.heap.size w X ∧ Lies X w.heap.size (fltO (.slice none 0 0) 0 (.slice none 0 0) 0 0)) ⟨below_one w _, Lies.new w _⟩ ?_
  rintro X ⟨bX, lX⟩
  have hpX := HP.out.below bX HP.out.lt
  obtain ⟨c0, c1, c2, c3, c4, c5, c6, c7, c8, c9, c10, c11, c12⟩ := thirteen hpX
  obtain ⟨⟨e0, e1, e2, e3, e4⟩, f0, f1, f2, f3, f4⟩ := five lX
  have BX := Lib.hid bX
  have LX := Lib.hid lX
  have n1 : ¬ w.heap.size = pb := by have := HP.out.lt; omega
  have n2 : ¬ pb = w.heap.size := by omega
  have fin : ∀ x' : Int, StOn (set5 X w.heap.size (.slice ta1 s.toks.length tc1) s.at_ (.slice oa1 s.opn.length oc1) s.wait x') P (.slice ta1 s.toks.length tc1) (.slice oa1 s.opn.length oc1) s := fun x' => by
    have b := set5_below BX.out (Nat.le_refl _) (.slice ta1 s.toks.length tc1) s.at_ (.slice oa1 s.opn.length oc1) s.wait x'
    exact HS.out.below b (Nat.le_refl _)
  have FIN := Lib.hid fin
  clear bX lX hpX fin
  by_cases h0 : e = 0
  · have x1 : (e != 0) = false := by rw [bne, beq_iff_eq.2 h0]; rfl
    have hb := HB.out
    rw [if_pos h0] at hb
    have HX := Lib.hid hb
    clear hb h0 HB
    go_wp2_with fail
    refine bodyPost_ret (res_flt Tryz.results69 rfl (set5_lies LX.out (.slice ta1 s.toks.length tc1) s.at_ (.slice oa1 s.opn.length oc1) s.wait 110)) rfl ?_
    rw [HX.out]
    exact ⟨ta1, tc1, oa1, oc1, rfl, FIN.out 110, set5_below BX.out (Nat.le_refl _) ..⟩
  · have x1 : (e != 0) = true := bne_iff_ne.2 h0
    have hb := HB.out
    rw [if_neg h0] at hb
    have HX := Lib.hid hb
    clear hb h0 HB
    go_upto_region 2 with fail
    go_region_held3 (fun w' => w'.cell? ⟨pb, 0, none⟩ = some (.slice ta1 s.toks.length tc1) ∧ w'.cell? ⟨pb, 1, none⟩ = some (.int .i64 s.at_) ∧ w'.cell? ⟨pb, 2, none⟩ = some (.slice oa1 s.opn.length oc1) ∧ w'.cell? ⟨pb, 3, none⟩ = some (.int .i64 s.wait) ∧ w'.cell? ⟨pb, 12, none⟩ = some (.int .i64 e)) (go_keep) (fail)
    go_wp2_with fail
    refine bodyPost_ret (res_flt Tryz.results69 rfl (lies_drew (set5_lies LX.out (.slice ta1 s.toks.length tc1) s.at_ (.slice oa1 s.opn.length oc1) s.wait e))) rfl ?_
    rw [HX.out]
    exact ⟨ta1, tc1, oa1, oc1, rfl, (FIN.out e).drew, bel_drew (set5_below BX.out (Nat.le_refl _) _ _ _ _ _)⟩
end Go.Proofs.YtmgclgojmckfhaaGreatDoor.Typ
/-
  The program's parser: move, take, want. Conditions: what the program's Next does, and sizes that are borne.
-/
namespace Go.Proofs.YtmgclgojmckfhaaGreatDoor.Typ
open Tks Tre Go.RowKit
open Lay (Sx StV Fit9 nextS NextOut tkV9 IntArg Kp)
set_option linter.unusedSimpArgs false
set_option linter.unusedVariables false

/-- A parser's block, whatever it holds. -/
def ParX (W : World) (pb : Nat) : Prop := ∃ (pa : Option Addr) (pn pc : Nat) (a : Int) (qa : Option Addr) (qn qc : Nat) (b : Int) (t : Tk) (ra : Option Addr) (rn rc : Nat) (c : Int) (sa : Option Addr) (sn sc : Nat) (d e : Int), Lies W pb (parO (.slice pa pn pc) a (.slice qa qn qc) b t (.slice ra rn rc) c (.slice sa sn sc) d e)
theorem Par.x {W : World} {P : Nat → Prop} {pb : Nat} {s : Sx} (h : Par W P pb s) : ParX W pb := by
  obtain ⟨_, _, _, _, _, _, _, _, h, _⟩ := h
  exact ⟨_, _, _, _, _, _, _, _, _, _, _, _, _, _, _, _, _, _, h⟩
theorem par4_lies {W : World} {B : Nat} {tv ov tv2 ov2 : Value} {a wt a2 wt2 e : Int} {t : Tk} (q : Lies W B (parO tv a ov wt t tv2 a2 ov2 wt2 e)) (tv' : Value) (a' : Int) (ov' : Value) (wt' : Int) : Lies (Lay.set4 W B tv' (.int .i64 a') ov' (.int .i64 wt')) B (parO tv' a' ov' wt' t tv2 a2 ov2 wt2 e) :=
  Lies.put (Lies.put (Lies.put (Lies.put q 0 _) 1 _) 2 _) 3 _
def set9 (W : World) (B : Nat) (t : Tk) (tv : Value) (a : Int) (ov : Value) (wt e : Int) : World :=
  ((((((((W.setCell ⟨B, 4, none⟩ (.int .i64 t.kind)).setCell ⟨B, 5, none⟩ (.string t.text)).setCell ⟨B, 6, none⟩ (.int .i64 t.line)).setCell ⟨B, 7, none⟩ (.int .i64 t.col)).setCell ⟨B, 8, none⟩ tv).setCell ⟨B, 9, none⟩ (.int .i64 a)).setCell ⟨B, 10, none⟩ ov).setCell ⟨B, 11, none⟩ (.int .i64 wt)).setCell ⟨B, 12, none⟩ (.int .i64 e)
theorem set9_lies {W : World} {B : Nat} {tv ov tv2 ov2 : Value} {a wt a2 wt2 e : Int} {t : Tk} (q : Lies W B (parO tv a ov wt t tv2 a2 ov2 wt2 e)) (t' : Tk) (tv' : Value) (a' : Int) (ov' : Value) (wt' e' : Int) : Lies (set9 W B t' tv' a' ov' wt' e') B (parO tv a ov wt t' tv' a' ov' wt' e') := by
  unfold parO at q
  have q := Lies.put q 4 (.int .i64 t'.kind)
  have q := Lies.put q 5 (.string t'.text)
  have q := Lies.put q 6 (.int .i64 t'.line)
  have q := Lies.put q 7 (.int .i64 t'.col)
  have q := Lies.put q 8 tv'
  have q := Lies.put q 9 (.int .i64 a')
  have q := Lies.put q 10 ov'
  have q := Lies.put q 11 (.int .i64 wt')
  have q := Lies.put q 12 (.int .i64 e')
  simp only [List.setIfInBounds_toArray, List.set_cons_zero, List.set_cons_succ] at q
  exact q
theorem set9_keep (W : World) {B k : Nat} (hk : k ≠ B) (t : Tk) (tv : Value) (a : Int) (ov : Value) (wt e : Int) : (set9 W B t tv a ov wt e).heap[k]? = W.heap[k]? := by
  unfold set9
  rw [heap_set hk, heap_set hk, heap_set hk, heap_set hk, heap_set hk, heap_set hk, heap_set hk, heap_set hk, heap_set hk]
theorem set9_size (W : World) (B : Nat) (t : Tk) (tv : Value) (a : Int) (ov : Value) (wt e : Int) : (set9 W B t tv a ov wt e).heap.size = W.heap.size := by
  unfold set9
  simp only [World.size_setCell]
theorem Kp.set9 {W W1 : World} {B : Nat} {g : Option Nat} (h : Kp W W1 B g) (t : Tk) (tv : Value) (a : Int) (ov : Value) (wt e : Int) : Kp W (set9 W1 B t tv a ov wt e) B g :=
  ((((((((h.set 4 _).set 5 _).set 6 _).set 7 _).set 8 _).set 9 _).set 10 _).set 11 _).set 12 _
theorem Kp.set4 {W W1 : World} {B : Nat} {g : Option Nat} (h : Kp W W1 B g) (x y p q : Value) : Kp W (Lay.set4 W1 B x y p q) B g := (((h.set 0 _).set 1 _).set 2 _).set 3 _
theorem kp_lies {W W1 : World} {B k : Nat} {g : Option Nat} {o : Obj} (h : Kp W W1 B g) (hl : Tre.Lies W k o) (h1 : k ≠ B) (h2 : some k ≠ g) : Tre.Lies W1 k o := (h.block k hl.lt h1 h2).trans hl
theorem Kp.bel {W W1 W2 : World} {B : Nat} {g : Option Nat} (h : Kp W W1 B g) (k : Below W1.heap.size W1 W2) : Kp W W2 B g :=
  ⟨k.os.trans h.os, k.tape.trans h.tape, k.output.trans h.output, Nat.le_trans h.size k.size, fun i hi h1 h2 => (k.block i (Nat.lt_of_lt_of_le hi h.size)).trans (h.block i hi h1 h2)⟩
set_option maxRecDepth 1000000 in
set_option maxHeartbeats 400000 in
theorem move_any {N : Nat} (hN : N ≤ 1099511627776) (R : NextOn 49) (P : Nat → Prop) (pb : Nat) (tv ov : Value) (s : Sx) (w : World) (hp : ParX w pb) (hs : StOn w P tv ov s) (hf : Fits N s) (hP : ∀ b, w.heap.size ≤ b → P b) (hpb : ¬ P pb) :
    Calls Tryz.prog 24 #[.pointer (some ⟨pb, 0, none⟩), stV tv s.at_ ov s.wait] w fun e w' => e = .returned (.tuple #[]) ∧ Par w' P pb s ∧ Kp w w' pb none := by
  obtain ⟨ta, tc, oa, oc, rfl, rfl⟩ := hs.len
  obtain ⟨pa, pn, pc, a, qa, qn, qc, b, t9, ra, rn, rc, c, sa, sn, sc, d, e9, hp⟩ := hp
  have CN := Lib.hid (fun W h h2 => R P (.slice ta s.toks.length tc) (.slice oa s.opn.length oc) s W h (hf.nine hN) h2)
  unfold stV tkV9 at CN
  unfold stV
  have HS := Lib.hid hs
  have HP := Lib.hid hP
  have HPB := Lib.hid hpb
  have HPP := Lib.hid hp
  have HFIN : Hid (∀ (Y : World) (ta2 oa2 : Option Addr) (tc2 oc2 : Nat), Lies Y pb (parO (.slice ta s.toks.length tc) s.at_ (.slice oa s.opn.length oc) s.wait (tk s) (.slice ta2 (nx s).toks.length tc2) (nx s).at_ (.slice oa2 (nx s).opn.length oc2) (nx s).wait (er s)) → StOn Y P (.slice ta s.toks.length tc) (.slice oa s.opn.length oc) s → StOn Y P (.slice ta2 (nx s).toks.length tc2) (.slice oa2 (nx s).opn.length oc2) (nx s) → Par Y P pb s) := fun Y ta2 oa2 tc2 oc2 h1 h2 h3 => ⟨ta, tc, oa, oc, ta2, tc2, oa2, oc2, h1, h2, h3⟩
  generalize Par = PR at *
  generalize tk s = t at *
  generalize nx s = s2 at *
  generalize er s = er2 at *
  clear hs hf hP R hp hpb
  go_enter Tryz.func24, Tryz.ntmps24
  go_upto_region 1 with fail
  refine gen_world (fun X => Below w.heap.size w X ∧ Lies X w.heap.size (stB (.slice ta s.toks.length tc) s.at_ (.slice oa s.opn.length oc) s.wait)) ⟨below_one w _, Lies.new w _⟩ ?_
  rintro X ⟨bX, lX⟩
  have hpX := HPP.out.below bX HPP.out.lt
  obtain ⟨c0, c1, c2, c3, c4, c5, c6, c7, c8, c9, c10, c11, c12⟩ := thirteen hpX
  obtain ⟨f0, f1, f2, f3, f4, f5, f6, f7, f8, f9, f10, f11, f12⟩ := thirteen_fr hpX
  obtain ⟨a0, a1, a2, a3⟩ := four_st lX
  have n1 : ¬ w.heap.size = pb := by have := HPP.out.lt; omega
  have n2 : ¬ pb = w.heap.size := by omega
  have BX := Lib.hid bX
  have LX := Lib.hid lX
  have PX := Lib.hid hpX
  clear bX lX hpX
  go_upto_region 2 with fail
  refine gen_world (fun Y => Kp w Y pb none ∧ Lies Y pb (parO (.slice ta s.toks.length tc) s.at_ (.slice oa s.opn.length oc) s.wait t9 (.slice ra rn rc) c (.slice sa sn sc) d e9) ∧ Lies Y w.heap.size (stB (.slice ta s.toks.length tc) s.at_ (.slice oa s.opn.length oc) s.wait) ∧ w.heap.size ≤ Y.heap.size) ⟨Kp.set4 (Kp.of_below BX.out) _ _ _ _, par4_lies PX.out _ _ _ _, set4_other LX.out n1 _ _ _ _, Nat.le_trans BX.out.size (Nat.le_of_eq (set4_size _ _ _ _).symm)⟩ ?_
  rintro Y ⟨kY, pY, lY, zY⟩
  clear a0 a1 a2 a3 c0 c1 c2 c3 c4 c5 c6 c7 c8 c9 c10 c11 c12 f0 f1 f2 f3 f4 f5 f6 f7 f8 f9 f10 f11 f12 BX LX PX
  obtain ⟨a0, a1, a2, a3⟩ := four_st lY
  have sY : StOn Y P (.slice ta s.toks.length tc) (.slice oa s.opn.length oc) s := HS.out.kept zY (fun d hd hp => ⟨kY.block d hd (fun e => HPB.out (e ▸ hp)) (by simp), hp⟩)
  have CY := Lib.hid (CN.out Y sY (fun d hd => HP.out d (by omega)))
  have SY := Lib.hid sY
  have PY := Lib.hid pY
  have KY := Lib.hid kY
  clear sY pY kY zY lY CN
  go_wp2_with (first
    | (go_at_call 49; refine CY.out.mono ?_; rintro e w1 ⟨tv2, ov2, rfl, st2, b1⟩; obtain ⟨ta2, tc2, oa2, oc2, rfl, rfl⟩ := st2.len; have B1 := Lib.hid b1; have T2 := Lib.hid st2; have p1 := PY.out.below b1 PY.out.lt; clear b1 st2; obtain ⟨c0, c1, c2, c3, c4, c5, c6, c7, c8, c9, c10, c11, c12⟩ := thirteen p1; obtain ⟨f0, f1, f2, f3, f4, f5, f6, f7, f8, f9, f10, f11, f12⟩ := thirteen_fr p1; have P1 := Lib.hid p1; clear p1))
  go_end0
  have kp := fun d (h : P d) => (show d ≠ pb from fun e => HPB.out (e ▸ h))
  refine ⟨rfl, HFIN.out _ ta2 oa2 tc2 oc2 (set9_lies P1.out t (.slice ta2 s2.toks.length tc2) s2.at_ (.slice oa2 s2.opn.length oc2) s2.wait er2) ((SY.out.below B1.out (Nat.le_refl _)).kept (Nat.le_of_eq (set9_size ..).symm) (fun d hd hp => ⟨set9_keep w1 (kp d hp) .., hp⟩)) (T2.out.kept (Nat.le_of_eq (set9_size ..).symm) (fun d hd hp => ⟨set9_keep w1 (kp d hp) .., hp⟩)), Kp.set9 (Kp.bel KY.out B1.out) ..⟩
/-- A node is written into the result's block. -/
theorem six_fin {w w1 : World} {P : Nat → Prop} {pb B : Nat} {s : Sx} {g : Option Nat} (h : Par w1 (Pm P [B]) pb s) (k : Kp w w1 pb g) (hB : pb ≠ B) (hw : w.heap.size ≤ B) (x y z u v r : Value) : Par (Tre.set6 w1 B x y z u v r) P pb s ∧ Kp w (Tre.set6 w1 B x y z u v r) pb g := by
  have e : (Tre.set6 w1 B x y z u v r).heap.size = w1.heap.size := set6_size w1 B x y z u v r
  have q : ∀ d, d ≠ B → (Tre.set6 w1 B x y z u v r).heap[d]? = w1.heap[d]? := fun d hd => set6_keep w1 hd x y z u v r
  have b0 := set6_below (Below.refl B w1) (Nat.le_refl B) x y z u v r
  have o1 := b0.os
  have o2 := b0.tape
  have o3 := b0.output
  clear b0
  generalize Tre.set6 w1 B x y z u v r = W at *
  refine ⟨h.kept (by omega) (q pb hB) (fun d hd hq => ⟨q d (fun e => hq.2 (by rw [e]; simp)), hq.1⟩), o1.trans k.os, o2.trans k.tape, o3.trans k.output, by have := k.size; omega, fun d hd h1 h2 => (q d (by omega)).trans (k.block d hd h1 h2)⟩
set_option maxRecDepth 1000000 in
set_option maxHeartbeats 400000 in
theorem ptake_any {N : Nat} (hN : N ≤ 1099511627776) (R : NextOn 49) (P : Nat → Prop) (pb : Nat) (s : Sx) (w : World) (hp : Par w P pb s) (hf : Fits N s) (hP : ∀ b, w.heap.size ≤ b → P b) (hpb : ¬ P pb) :
    Calls Tryz.prog 28 #[.pointer (some ⟨pb, 0, none⟩)] w fun e w' => e = .returned (ndV (leafH (tk s)) (.slice none 0 0)) ∧ Par w' P pb (nx s) ∧ Kp w w' pb none := by
  have CM := Lib.hid (fun Q tv ov W a b c d => move_any hN R Q pb tv ov (nx s) W a b (fits_next hf) c d)
  unfold stV at CM
  have HP := Lib.hid hP
  have HPB := Lib.hid hpb
  have HPX := Lib.hid hp.x
  obtain ⟨ta1, tc1, oa1, oc1, ta2, tc2, oa2, oc2, hp, hs, hs2⟩ := hp
  have HPP := Lib.hid hp
  have HS2 := Lib.hid hs2
  have HRES : Hid (∀ (Y : World) (R2 : Nat), Par Y P pb (nx s) → Kp w Y pb none → w.heap.size ≤ R2 → Par (set6 Y R2 (.int .i64 1) (.int .i64 (tk s).kind) (.string (tk s).text) (.int .i64 (tk s).line) (.int .i64 (tk s).col) (.slice none 0 0)) P pb (nx s) ∨ True) := fun _ _ _ _ _ => .inr trivial
  clear HRES
  generalize tk s = t at *
  generalize nx s = s2 at *
  generalize er s = er2 at *
  clear hs hs2 hf hP R hp hpb
  go_enter Tryz.func28, Tryz.ntmps28
  go_upto_region 1 with fail
  refine gen_world (fun X => Below w.heap.size w X ∧ Lies X w.heap.size zNd ∧ X.heap.size = w.heap.size + 1) ⟨below_one w _, Lies.new w _, World.size_alloc _ _⟩ ?_
  rintro X ⟨bX, rX, zX⟩
  have hpX := HPP.out.below bX HPP.out.lt
  obtain ⟨c0, c1, c2, c3, c4, c5, c6, c7, c8, c9, c10, c11, c12⟩ := thirteen hpX
  have BX := Lib.hid bX
  have RX := Lib.hid rX
  have n3 : pb < X.heap.size := hpX.lt
  have ZX := Lib.hid zX
  clear bX rX hpX zX
  go_upto_region 2 with fail
  refine gen_world (fun Y => Below w.heap.size w Y ∧ Lies Y w.heap.size zNd ∧ Lies Y X.heap.size (tkB t) ∧ X.heap.size < Y.heap.size) ⟨BX.out.trans ((below_one X _).mono BX.out.size), RX.out.alloc _, Lies.new X _, by rw [World.size_alloc]; omega⟩ ?_
  rintro Y ⟨bY, rY, tY, zY⟩
  clear c0 c1 c2 c3 c4 c5 c6 c7 c8 c9 c10 c11 c12 n3 BX RX
  have hpY := HPP.out.below bY HPP.out.lt
  obtain ⟨c0, c1, c2, c3, c4, c5, c6, c7, c8, c9, c10, c11, c12⟩ := thirteen hpY
  have sY := HS2.out.into (l := [w.heap.size]) bY (by simp)
  have CY := Lib.hid (CM.out (Pm P [w.heap.size]) _ _ Y (by obtain ⟨pa, pn, pc, a, qa, qn, qc, b, t9, ra, rn, rc, c, sa, sn, sc, d, e9, h⟩ := HPX.out; exact ⟨pa, pn, pc, a, qa, qn, qc, b, t9, ra, rn, rc, c, sa, sn, sc, d, e9, h.below bY h.lt⟩) sY (Pm.of HP.out (by have := rY.lt; simp; omega) bY.size) (fun h => HPB.out h.1))
  have HLT := Lib.hid HPP.out.lt
  have RY := Lib.hid rY
  have TY := Lib.hid tY
  have BY := Lib.hid bY
  have ZY := Lib.hid zY
  clear sY bY rY tY hpY zY
  go_upto_region 3 with (first
    | (go_at_call 24; refine CY.out.mono ?_; rintro e w1 ⟨rfl, p1, k1⟩; have r1 := kp_lies k1 RY.out (by have := HLT.out; omega) (by simp); have t1 := kp_lies k1 TY.out (by have := HLT.out; have := ZX.out; omega) (by simp); have P1 := Lib.hid p1; have K1 := Lib.hid k1; clear c0 c1 c2 c3 c4 c5 c6 c7 c8 c9 c10 c11 c12 p1 k1; obtain ⟨b0, b1, b2, b3⟩ := four_tk t1; unfold zNd at r1; obtain ⟨⟨e0, e1, e2, e3, e4, e5⟩, f0, f1, f2, f3, f4, f5⟩ := r1.nodef; have R1 := Lib.hid r1; clear r1 t1))
  go_wp2_with fail
  refine bodyPost_ret (res_nd Tryz.results28 rfl (Lies.all6 R1.out (leafH t) (.slice none 0 0))) rfl ?_
  have lt := HLT.out
  have kk : Kp w w1 pb none := (Kp.of_below BY.out).trans K1.out
  exact ⟨rfl, six_fin P1.out kk (by omega) (Nat.le_refl _) (.int .i64 1) (.int .i64 t.kind) (.string t.text) (.int .i64 t.line) (.int .i64 t.col) (.slice none 0 0)⟩
end Go.Proofs.YtmgclgojmckfhaaGreatDoor.Typ
/-
  The program's parser: want, commas. Conditions: what the program's Next does, and sizes that are borne.
-/
namespace Go.Proofs.YtmgclgojmckfhaaGreatDoor.Typ
open Tks Tre Go.RowKit
open Lay (Sx StV Fit9 nextS NextOut tkV9 IntArg Kp)
set_option linter.unusedSimpArgs false
set_option linter.unusedVariables false

/-- A form was parsed. -/
def OkOut (x : Rd) (P : Nat → Prop) (pb : Nat) (g : Option Nat) (W : World) (e : Ending) (w' : World) : Prop :=
  ∃ ka kc, e = .returned (ndV x.h (.slice ka (len x.k) kc)) ∧ KOn w' P (.slice ka (len x.k) kc) x.k ∧ Par w' P pb x.s ∧ Kp W w' pb g
/-- A fault. -/
def BadOut (x : Rd) (P : Nat → Prop) (pb : Nat) (g : Option Nat) (W : World) (e : Ending) (w' : World) : Prop :=
  ∃ ta tc oa oc, e = .panicked [{ v := .iface 59 (fltV (.slice ta x.s.toks.length tc) x.s.at_ (.slice oa x.s.opn.length oc) x.s.wait x.e), recovered := false }] ∧ StOn w' P (.slice ta x.s.toks.length tc) (.slice oa x.s.opn.length oc) x.s ∧ Kp W w' pb g
def POut (x : Rd) (P : Nat → Prop) (pb : Nat) (g : Option Nat) (W : World) (e : Ending) (w' : World) : Prop := if x.e = 0 then OkOut x P pb g W e w' else BadOut x P pb g W e w'
theorem POut.ok {x : Rd} {P : Nat → Prop} {pb : Nat} {g : Option Nat} {W : World} (h : x.e = 0) : POut x P pb g W = OkOut x P pb g W := by
  funext e w'
  exact if_pos h
theorem POut.bad {x : Rd} {P : Nat → Prop} {pb : Nat} {g : Option Nat} {W : World} (h : x.e ≠ 0) : POut x P pb g W = BadOut x P pb g W := by
  funext e w'
  exact if_neg h
theorem as_ok {f : FuncId} {args : Array Value} {x : Rd} {P : Nat → Prop} {pb : Nat} {g : Option Nat} {W : World} (h : Calls Tryz.prog f args W (POut x P pb g W)) (h0 : x.e = 0) : Calls Tryz.prog f args W (OkOut x P pb g W) := by
  rw [POut.ok h0] at h
  exact h
theorem as_bad {f : FuncId} {args : Array Value} {x : Rd} {P : Nat → Prop} {pb : Nat} {g : Option Nat} {W : World} (h : Calls Tryz.prog f args W (POut x P pb g W)) (h0 : x.e ≠ 0) : Calls Tryz.prog f args W (BadOut x P pb g W) := by
  rw [POut.bad h0] at h
  exact h
theorem foL_two (l : List Nv) (x y : Rd) (v w : Value) : foL (l ++ [⟨x.h, x.k, v⟩, ⟨y.h, y.k, w⟩]) = pushF (pushF (foL l) x) y := by
  rw [show l ++ [(⟨x.h, x.k, v⟩ : Nv), ⟨y.h, y.k, w⟩] = (l ++ [⟨x.h, x.k, v⟩]) ++ [⟨y.h, y.k, w⟩] from by simp, foL_push, foL_push]
theorem Par.into {w X : World} {P : Nat → Prop} {pb : Nat} {s : Sx} {l : List Nat} (h : Par w P pb s) (hb : Below w.heap.size w X) (hl : ∀ x ∈ l, w.heap.size ≤ x) : Par X (Pm P l) pb s :=
  h.kept hb.size (hb.block pb h.lt) (fun b hlt hp => ⟨hb.block b hlt, hp, fun hm => by have := hl b hm; omega⟩)
theorem Par.intox {w X : World} {P : Nat → Prop} {v : Value} {pb : Nat} {s : Sx} {l : List Nat} (h : Par w (Px P v) pb s) (hb : Below w.heap.size w X) (hl : ∀ x ∈ l, w.heap.size ≤ x) : Par X (Px (Pm P l) v) pb s :=
  h.kept hb.size (hb.block pb h.lt) (fun b hlt hp => ⟨hb.block b hlt, ⟨hp.1, fun hm => by have := hl b hm; omega⟩, hp.2⟩)
/-- A node is written into the result's block: the tree's kids stay. -/
theorem six_ok {w w1 : World} {P : Nat → Prop} {pb B : Nat} {g : Option Nat} {x : Rd} {ka : Option Addr} {kc : Nat} (hk : KOn w1 (Pm P [B]) (.slice ka (len x.k) kc) x.k) (h : Par w1 (Pm P [B]) pb x.s) (k : Kp w w1 pb g) (hB : pb ≠ B) (hw : w.heap.size ≤ B) : OkOut x P pb g w (.returned (ndV x.h (.slice ka (len x.k) kc))) (Tre.set6 w1 B (.int .i64 x.h.kind) (.int .i64 x.h.form) (.string x.h.text) (.int .i64 x.h.line) (.int .i64 x.h.col) (.slice ka (len x.k) kc)) := by
  have f := six_fin h k hB hw (.int .i64 x.h.kind) (.int .i64 x.h.form) (.string x.h.text) (.int .i64 x.h.line) (.int .i64 x.h.col) (.slice ka (len x.k) kc)
  have e : (Tre.set6 w1 B (.int .i64 x.h.kind) (.int .i64 x.h.form) (.string x.h.text) (.int .i64 x.h.line) (.int .i64 x.h.col) (.slice ka (len x.k) kc)).heap.size = w1.heap.size := set6_size w1 B _ _ _ _ _ _
  have q : ∀ d, d ≠ B → (Tre.set6 w1 B (.int .i64 x.h.kind) (.int .i64 x.h.form) (.string x.h.text) (.int .i64 x.h.line) (.int .i64 x.h.col) (.slice ka (len x.k) kc)).heap[d]? = w1.heap[d]? := fun d hd => set6_keep w1 hd _ _ _ _ _ _
  generalize Tre.set6 w1 B (.int .i64 x.h.kind) (.int .i64 x.h.form) (.string x.h.text) (.int .i64 x.h.line) (.int .i64 x.h.col) (.slice ka (len x.k) kc) = W at *
  exact ⟨ka, kc, rfl, hk.kept (by omega) (fun d hd hq => ⟨q d (fun e => hq.2 (by rw [e]; simp)), hq.1⟩), f.1, f.2⟩
set_option maxRecDepth 1000000 in
set_option maxHeartbeats 400000 in
theorem pwant_any {N : Nat} (hN : N ≤ 1099511627776) (R : NextOn 49) (P : Nat → Prop) (pb : Nat) (s : Sx) (c : UInt8) (w : World) (hp : Par w P pb s) (hf : Fits N s) (hP : ∀ b, w.heap.size ≤ b → P b) (hpb : ¬ P pb) :
    Calls Tryz.prog 92 #[.pointer (some ⟨pb, 0, none⟩), .string ⟨#[c]⟩] w (POut (wantR s 15 [c]) P pb none w) := by
  have CI := Lib.hid (fun Q W h => pis_any Q pb s 15 (by decide) ⟨#[c]⟩ W h)
  change Hid (∀ Q W, _ → Calls _ _ _ _ (fun e w' => e = .returned (.bool (isR s 15 [c])) ∧ _)) at CI
  have HPA := Lib.hid hp
  have HP := Lib.hid hP
  have HLT := Lib.hid hp.lt
  cases hi : isR s 15 [c] with
  | true =>
    rw [hi] at CI
    have he : er s = 0 := (is_take hi).1
    have hx : wantR s 15 [c] = ⟨leafH (tk s), .nil, nx s, 0⟩ := by
      unfold wantR
      rw [if_pos hi]
      exact if_pos he
    rw [hx, POut.ok rfl]
    have CT := Lib.hid (fun Q W a b d => ptake_any hN R Q pb s W a hf b d)
    unfold ndV at CT
    have HPB := Lib.hid hpb
    generalize tk s = t at *
    clear hi he hx hp hf hP hpb R
    go_enter Tryz.func92, Tryz.ntmps92
    go_upto_region 1 with fail
    refine gen_world (fun X => Below w.heap.size w X ∧ Lies X w.heap.size zNd) ⟨below_one w _, Lies.new w _⟩ ?_
    rintro X ⟨bX, rX⟩
    have pX := HPA.out.into (l := [w.heap.size]) bX (by simp)
    have IX := Lib.hid (CI.out _ X pX)
    have TX := Lib.hid (CT.out (Pm P [w.heap.size]) X pX (Pm.of HP.out (by have := rX.lt; simp; omega) bX.size) (fun h => HPB.out h.1))
    have BX := Lib.hid bX
    have RX := Lib.hid rX
    clear bX rX pX CI CT
    go_wp2_with (first
      | (go_at_call 26; refine IX.out.mono ?_; rintro e w1 ⟨rfl, rfl⟩)
      | (go_at_call 28; refine TX.out.mono ?_; rintro e w2 ⟨rfl, p2, k2⟩; have r2 := kp_lies k2 RX.out (by have := HLT.out; omega) (by simp); have P2 := Lib.hid p2; have K2 := Lib.hid k2; clear p2 k2; unfold zNd at r2; obtain ⟨⟨e0, e1, e2, e3, e4, e5⟩, f0, f1, f2, f3, f4, f5⟩ := r2.nodef; have R9 := Lib.hid r2; clear r2))
    refine bodyPost_ret (res_nd Tryz.results92 rfl (Lies.all6 R9.out (leafH t) (.slice none 0 0))) rfl ?_
    exact six_ok (x := ⟨leafH t, .nil, nx s, 0⟩) (KOn.nil ..) P2.out ((Kp.of_below BX.out).trans K2.out) (by have := HLT.out; omega) (Nat.le_refl _)
  | false =>
    rw [hi] at CI
    have hx : wantR s 15 [c] = badR s := by
      unfold wantR
      rw [if_neg (by rw [hi]; decide)]
    have hbs : (badR s).s = s := by
      unfold badR
      split <;> rfl
    rw [hx, POut.bad (bad_ne s)]
    unfold BadOut
    rw [hbs]
    have CW := Lib.hid (fun Q W a => wrong_any Q pb s W a)
    unfold fltV at CW
    unfold fltV
    generalize (badR s).e = y at *
    clear hi hx hp hf hP hpb R hbs
    go_enter Tryz.func92, Tryz.ntmps92
    go_upto_region 1 with fail
    refine gen_world (fun X => Below w.heap.size w X) (below_one w _) ?_
    rintro X bX
    have pX := HPA.out.below bX
    have IX := Lib.hid (CI.out _ X pX)
    have WX := Lib.hid (CW.out P X pX)
    have BX := Lib.hid bX
    clear bX pX CI CW
    go_wp2_with (first
      | (go_at_call 26; refine IX.out.mono ?_; rintro e w1 ⟨rfl, rfl⟩)
      | (go_at_call 69; refine WX.out.mono ?_; rintro e w2 ⟨ta2, tc2, oa2, oc2, rfl, s2, b2⟩; have S2 := Lib.hid s2; have B2 := Lib.hid b2; clear s2 b2))
    exact ⟨rfl, ta2, tc2, oa2, oc2, rfl, S2.out, Kp.of_below (afterL BX.out B2.out)⟩
end Go.Proofs.YtmgclgojmckfhaaGreatDoor.Typ
/-
  The program's parser: commas, and what a bracket ends. Conditions: what the program's Next does, and sizes that are borne.
-/
namespace Go.Proofs.YtmgclgojmckfhaaGreatDoor.Typ
open Tks Tre Go.RowKit
open Lay (Sx StV Fit9 nextS NextOut tkV9 IntArg Kp)
set_option linter.unusedSimpArgs false
set_option linter.unusedVariables false

/-- A row has grown, and the parser has moved. -/
structure Mq (w w' : World) (pb : Nat) (v v' : Value) : Prop where
  kp : Kp w w' pb v.ownBlock
  own : v'.ownBlock = v.ownBlock ∨ ∃ k, v'.ownBlock = some k ∧ w.heap.size ≤ k
theorem Mq.refl (w : World) (pb : Nat) (v : Value) : Mq w w pb v v := ⟨Kp.refl _ _ _, .inl rfl⟩
theorem Mq.of_kp {w w' : World} {pb : Nat} {v : Value} (h : Kp w w' pb none) : Mq w w' pb v v := ⟨⟨h.os, h.tape, h.output, h.size, fun k hk h1 _ => h.block k hk h1 (by simp)⟩, .inl rfl⟩
theorem Mq.of_mv {w w' : World} {pb : Nat} {v v' : Value} (h : Mv w w' v v') : Mq w w' pb v v' := ⟨⟨h.grown.os, h.grown.tape, h.grown.output, h.grown.size, fun k hk _ h2 => h.grown.block k hk h2⟩, h.own⟩
theorem Mq.trans {a b c : World} {pb : Nat} {u v x : Value} (h : Mq a b pb u v) (k : Mq b c pb v x) : Mq a c pb u x := by
  refine ⟨⟨k.kp.os.trans h.kp.os, k.kp.tape.trans h.kp.tape, k.kp.output.trans h.kp.output, Nat.le_trans h.kp.size k.kp.size, fun j hj h1 h2 => ?_⟩, ?_⟩
  · refine (k.kp.block j (Nat.lt_of_lt_of_le hj h.kp.size) h1 ?_).trans (h.kp.block j hj h1 h2)
    rcases h.own with q | ⟨m, q, hm⟩
    · rw [q]
      exact h2
    · rw [q]
      intro e
      injection e with e
      omega
  · rcases k.own with q | ⟨m, q, hm⟩
    · rcases h.own with q2 | ⟨m, q2, hm⟩
      · exact .inl (q.trans q2)
      · exact .inr ⟨m, q.trans q2, hm⟩
    · exact .inr ⟨m, q, Nat.le_trans h.kp.size hm⟩
theorem NdP.kp {W W' : World} {B : Nat} {P : Nat → Prop} {v : Value} {l : List Nv} {pb : Nat} (h : NdP W B P v l) (k : Kp W W' pb none) (hpb : ¬ P pb) : NdP W' B P v l :=
  h.kept k.size (fun b hb hq => k.block b hb (fun e => by
    rcases hq with q | q
    · exact hpb (e ▸ h.own b q)
    · exact hpb (e ▸ q.1)) (by simp))
theorem KOn.kp {W W' : World} {P : Nat → Prop} {v : Value} {k : Fo} {pb : Nat} (h : KOn W P v k) (q : Kp W W' pb none) (hpb : ¬ P pb) : KOn W' P v k :=
  h.kept q.size (fun b hb hp => ⟨q.block b hb (fun e => hpb (e ▸ hp)) (by simp), hp⟩)
theorem NdP.noown {W : World} {B : Nat} {P : Nat → Prop} {v : Value} {l : List Nv} {pb : Nat} (h : NdP W B P v l) (hpb : ¬ P pb) : v.ownBlock ≠ some pb := fun e => hpb (h.own pb e)
theorem px_ge {W : World} {B : Nat} {P : Nat → Prop} {v : Value} {l : List Nv} (h : NdP W B P v l) (hP : ∀ b, W.heap.size ≤ b → P b) : ∀ b, W.heap.size ≤ b → Px P v b := fun b hb => ⟨hP b hb, fun e => by have := (h.lt e).2; omega⟩
set_option maxRecDepth 1000000 in
set_option maxHeartbeats 400000 in
theorem pcommas_any {N : Nat} (hN : N ≤ 1099511627776) (R : NextOn 49) (P : Nat → Prop) (pb : Nat) (v : Value) (l : List Nv) (s : Sx) (w : World) (hr : NdP w 0 P v l) (hp : Par w (Px P v) pb s) (hf : Fits N s) (hP : ∀ b, w.heap.size ≤ b → P b) (hpb : ¬ P pb) (K : Nat) (hK : K ≤ 1099511627775) (hl : l.length + lf s ≤ K) :
    Calls Tryz.prog 90 #[.pointer (some ⟨pb, 0, none⟩), v] w fun e w' => ∃ v' l' s', e = .returned v' ∧ NdP w' 0 P v' l' ∧ Par w' (Px P v') pb s' ∧ Mq w w' pb v v' ∧ Fits N s' ∧ l'.length ≤ K ∧ commasR (fu s) (foL l) s = closeR 3 41 (foL l') s' := by
  obtain ⟨va, vc, rfl⟩ := hr.slice
  have CI := Lib.hid (fun Q s W h => pis_any Q pb s 15 (by decide) ⟨#[44]⟩ W h)
  change Hid (∀ Q s W, _ → Calls _ _ _ _ (fun e w' => e = .returned (.bool (isR s 15 [44])) ∧ _)) at CI
  have CT := Lib.hid (fun Q s W a hf b d => ptake_any hN R Q pb s W a hf b d)
  unfold ndV at CT
  have HR := Lib.hid hr
  have HPA := Lib.hid hp
  have HF := Lib.hid hf
  have HP := Lib.hid hP
  have HPB := Lib.hid hpb
  have HKK := Lib.hid hK
  have HL0 := Lib.hid hl
  have HCO : Hid (∃ f, lf s < f ∧ commasR f (foL l) s = commasR (fu s) (foL l) s) := ⟨_, Nat.lt_succ_self _, rfl⟩
  generalize commasR (fu s) (foL l) s = x at *
  clear hr hp hf hP hpb hK hl R
  go_enter Tryz.func90, Tryz.ntmps90
  go_wp2_with fail
  go_loopw [1] (fun u wr => ∃ (l' : List Nv) (s' : Sx) (f : Nat), NdP wr 0 P u l' ∧ Par wr (Px P u) pb s' ∧ Mq w wr pb (.slice va l.length vc) u ∧ Fits N s' ∧ l'.length + lf s' ≤ K ∧ lf s' < f ∧ commasR f (foL l') s' = x) (fun u _ => K - lenOf u)
  case atStart =>
    obtain ⟨f, h1, h2⟩ := HCO.out
    exact ⟨l, s, f, HR.out, HPA.out, Mq.refl _ _ _, HF.out, HL0.out, h1, h2⟩
  case round =>
    obtain ⟨l', s', f, hn, hp, hm, hf, hk, hlt, hx⟩ := hrel
    obtain ⟨va1, vc1, rfl⟩ := hn.slice
    clear HCO
    obtain ⟨f, rfl⟩ : ∃ g, f = g + 1 := ⟨f - 1, by omega⟩
    unfold commasR at hx
    have IX := Lib.hid (CI.out _ s' wr hp)
    have TX := Lib.hid (CT.out _ s' wr hp hf (px_ge hn (fun b hb => HP.out b (Nat.le_trans hm.kp.size hb))) (fun h => HPB.out h.1))
    have IL := @is_less s' 15 [44]
    have HN1 := Lib.hid hn
    have HM := Lib.hid hm
    have HF1 := Lib.hid (fits_next hf)
    have HF0 := Lib.hid hf
    have HPA1 := Lib.hid hp
    have HKL := Lib.hid hk
    have HLT := Lib.hid hlt
    clear hn hp hm hf hk hlt CI CT
    cases hi : isR s' 15 [44] with
    | false =>
      rw [hi] at hx IX
      rw [if_neg (by decide)] at hx
      have HX := Lib.hid hx
      clear hi hx IL TX
      go_wp2_with (first
        | (go_at_call 26; refine IX.out.mono ?_; rintro e w1 ⟨rfl, rfl⟩))
      go_ret
      have := HKL.out
      exact ⟨_, l', s', rfl, HN1.out, HPA1.out, HM.out, HF0.out, by omega, HX.out.symm⟩
    | true =>
      rw [hi] at hx IX
      rw [if_pos rfl] at hx
      have IL := IL hi (by decide)
      have hy : takeR s' = ⟨leafH (tk s'), .nil, nx s', 0⟩ := take_ok IL.1
      rw [hy] at hx IL
      have HX := Lib.hid hx
      have HIL := Lib.hid IL.2.2
      generalize tk s' = t0 at *
      generalize nx s' = s2 at *
      clear hi hx IL hy
      go_wp2_with (first
        | (go_at_call 26; refine IX.out.mono ?_; rintro e w1 ⟨rfl, rfl⟩)
        | (go_at_call 28; refine TX.out.mono ?_; rintro e w2 ⟨rfl, p2, k2⟩; have P2 := Lib.hid p2; have K2 := Lib.hid k2; have N2 := Lib.hid (HN1.out.kp k2 HPB.out); clear p2 k2)
        | (at_builtin; refine append_lit w2 rfl _ _ rfl 0 P (.slice va1 l'.length vc1) l' [⟨leafH t0, .nil, .slice none 0 0⟩] rfl N2.out _ _ rfl _ _ rfl rfl (fun x hx => by rw [List.mem_singleton.1 hx]; exact KOn.nil ..) (by have := HKL.out; have := HKK.out; have := HIL.out; simp; omega) (Nat.zero_le _) (fun b hb => HP.out b (by have := HM.out.kp.size; have := K2.out.size; omega)) ?_; intro v3 w3 n3 m3; have P3 := Lib.hid (P2.out.move m3 (N2.out.noown HPB.out)); have M3 := Lib.hid ((HM.out.trans (Mq.of_kp K2.out)).trans (Mq.of_mv m3)); have N3 := Lib.hid n3; clear n3 m3))
      obtain ⟨va4, vc4, e4⟩ := N3.out.slice
      have hk := HKL.out
      have hl := HLT.out
      have hi := HIL.out
      refine ⟨⟨_, s2, f, N3.out, P3.out, M3.out, HF1.out, ?_, ?_, ?_⟩, ?_⟩
      · rw [List.length_append, List.length_singleton]
        omega
      · omega
      · rw [foL_push l' ⟨leafH t0, .nil, s2, 0⟩]
        exact HX.out
      · rw [e4]
        simp only [lenOf, List.length_append, List.length_singleton]
        omega
end Go.Proofs.YtmgclgojmckfhaaGreatDoor.Typ
/-
  The program's parser: types. Conditions: what the program's Next and arrow do, and sizes that are borne.
-/
namespace Go.Proofs.YtmgclgojmckfhaaGreatDoor.Typ
open Tks Tre Go.RowKit
open Lay (Sx StV Fit9 nextS NextOut tkV9 IntArg Kp)
set_option linter.unusedSimpArgs false
set_option linter.unusedVariables false

set_option maxRecDepth 1000000 in
set_option maxHeartbeats 1000000 in
theorem ptypes_any {N : Nat} (hN : N ≤ 1099511627776) (R : NextOn 49) (T : Sx → Rd) (hTF : ∀ s, Fits N s → Fits N (T s).s) (hTL : ∀ s, Lv s (T s)) (deep deep1 : Int) (hd : IntKind.i64.wrap (deep - 1) = deep1) (P : Nat → Prop) (pb : Nat) (CA : ∀ (P : Nat → Prop) (s : Sx) (W : World), Par W P pb s → Fits N s → (∀ b, W.heap.size ≤ b → P b) → ¬ P pb → Calls Tryz.prog 29 #[.pointer (some ⟨pb, 0, none⟩), .int .i64 deep1] W (POut (T s) P pb none W)) (v : Value) (l : List Nv) (s : Sx) (w : World) (hr : NdP w 0 P v l) (hp : Par w (Px P v) pb s) (hf : Fits N s) (hP : ∀ b, w.heap.size ≤ b → P b) (hpb : ¬ P pb) (K : Nat) (hK : K ≤ 1099511627776) (hl : l.length + 2 * lf s + 4 ≤ K) :
    Calls Tryz.prog 91 #[.pointer (some ⟨pb, 0, none⟩), v, .int .i64 deep] w (POut (typesR T (fu s) 4 (foL l) s) P pb v.ownBlock w) := by
  obtain ⟨va, vc, rfl⟩ := hr.slice
  have CI := Lib.hid (fun Q s W h => pis_any Q pb s 15 (by decide) ⟨#[44]⟩ W h)
  change Hid (∀ Q s W, _ → Calls _ _ _ _ (fun e w' => e = .returned (.bool (isR s 15 [44])) ∧ _)) at CI
  have CT := Lib.hid (fun Q s W a hf b d => ptake_any hN R Q pb s W a hf b d)
  unfold ndV at CT
  have CW := Lib.hid (fun Q s W a hf b d => pwant_any hN R Q pb s 41 W a hf b d)
  have CA := Lib.hid CA
  have HTF := Lib.hid hTF
  have HTL := Lib.hid hTL
  have HR := Lib.hid hr
  have HPA := Lib.hid hp
  have HF1 := Lib.hid (hTF _ hf)
  have HF := Lib.hid hf
  have HP := Lib.hid hP
  have HPB := Lib.hid hpb
  have HPQ : Hid (¬ (Pm P [w.heap.size]) pb) := fun h => hpb h.1
  have HKK := Lib.hid hK
  have HL0 := Lib.hid hl
  have HLT := Lib.hid hp.lt
  have hx : typesR T (fu s) 4 (foL l) s = if (T s).e = 0 then (if isR (T s).s 15 [44] = true then typesR T (lf s) 5 (pushF (pushF (foL l) (T s)) (takeR (T s).s)) (takeR (T s).s).s else closeR 4 41 (pushF (foL l) (T s)) (T s).s) else T s := rfl
  have HX := Lib.hid hx
  have HYL := Lib.hid (fun h => lv_less (hTL s h))
  have CA0 := Lib.hid (fun Q W a b d => CA.out Q s W a hf b d)
  generalize typesR T (fu s) 4 (foL l) s = x at *
  generalize T s = y at *
  clear hr hp hf hP hpb hK hl R hTF hTL hx
  go_enter Tryz.func91, Tryz.ntmps91
  go_upto_region 1 with fail
  refine gen_world (fun X => Below w.heap.size w X ∧ Lies X w.heap.size zNd) ⟨below_one w _, Lies.new w _⟩ ?_
  rintro X ⟨bX, rX⟩
  have pX := HPA.out.intox (l := [w.heap.size]) bX (by simp)
  have nX := HR.out.into (ls := [w.heap.size]) bX (by simp)
  have AX := Lib.hid (CA0.out (Px (Pm P [w.heap.size]) (.slice va l.length vc)) X pX (px_ge nX (Pm.of HP.out (by have := rX.lt; simp; omega) bX.size)) (fun h => HPQ.out h.1))
  have RX := Lib.hid rX
  have NX := Lib.hid nX
  have MX := Lib.hid (Mq.of_kp (pb := pb) (v := .slice va l.length vc) (Kp.of_below bX))
  clear bX rX pX nX CA0 HPA HR
  by_cases h0 : y.e = 0
  · have hx := HX.out
    rw [if_pos h0] at hx
    have HYL1 := Lib.hid (HYL.out h0)
    have HX := Lib.hid hx
    rw [POut.ok h0] at AX
    unfold OkOut ndV at AX
    clear hx h0 HYL
    go_upto_region 2 with (first
      | (go_at_call 29; refine AX.out.mono ?_; rintro e w2 ⟨ka2, kc2, rfl, k2, p2, q2⟩; have P2 := Lib.hid p2; have K2 := Lib.hid k2; have N2 := Lib.hid (NX.out.kp q2 HPQ.out); have M2 := Lib.hid (MX.out.trans (Mq.of_kp q2)); have RR := Lib.hid (kp_lies q2 RX.out (by have := HLT.out; omega) (by simp)); clear k2 p2 q2)
      | (at_builtin; refine append_lit w2 rfl _ _ rfl 0 (Pm P [w.heap.size]) (.slice va l.length vc) l [⟨y.h, y.k, .slice ka2 (len y.k) kc2⟩] rfl N2.out _ _ rfl _ _ rfl rfl (fun x hx => by rw [List.mem_singleton.1 hx]; exact K2.out) (by have := HL0.out; have := HKK.out; simp; omega) (Nat.zero_le _) (fun b hb => ⟨HP.out b (by have := M2.out.kp.size; omega), by have := RR.out.lt; simp; omega⟩) ?_; intro v3 w3 n3 m3; have P3 := Lib.hid (P2.out.move m3 (N2.out.noown HPQ.out)); have M3 := Lib.hid (M2.out.trans (Mq.of_mv m3)); have R3 := Lib.hid (m3.lies RR.out (fun e => (N2.out.own _ e).2 (by simp))); have N3 := Lib.hid n3; clear n3 m3))
    obtain ⟨l9, hl9⟩ : ∃ l9, l ++ [(⟨y.h, y.k, .slice ka2 (len y.k) kc2⟩ : Nv)] = l9 := ⟨_, rfl⟩
    have hf9 : pushF (foL l) y = foL l9 := by
      rw [← hl9, foL_push]
    have HL9 : Hid (l9.length = l.length + 1) := by
      unfold Hid
      rw [← hl9, List.length_append, List.length_singleton]
    rw [hl9] at N3
    rw [hf9] at HX
    clear hl9 hf9
    try generalize (Value.agg #[.int .i64 y.h.kind, .int .i64 y.h.form, .string y.h.text, .int .i64 y.h.line, .int .i64 y.h.col, .slice ka2 (len y.k) kc2] : Value) = og1
    go_wp2_with fail
    go_loopw [1, 7] (fun u kd wr => ∃ (l' : List Nv) (s' : Sx) (f : Nat) (kind : Int), kd = .int .i64 kind ∧ NdP wr 0 (Pm P [w.heap.size]) u l' ∧ Par wr (Px (Pm P [w.heap.size]) u) pb s' ∧ Lies wr w.heap.size zNd ∧ Mq w wr pb (.slice va l.length vc) u ∧ Fits N s' ∧ l'.length + 2 * lf s' + 3 ≤ K ∧ lf s' ≤ f ∧ (if isR s' 15 [44] = true then typesR T f 5 (pushF (foL l') (takeR s')) (takeR s').s else closeR kind 41 (foL l') s') = x) (fun u _ _ => K - lenOf u)
    case atStart =>
      have := HL0.out
      have := HL9.out
      have := HYL1.out
      exact ⟨l9, y.s, lf s, 4, rfl, N3.out, P3.out, R3.out, M3.out, HF1.out, by omega, by omega, HX.out.symm⟩
    case round =>
      obtain ⟨l', s', f, kind, rfl, hn, hp, hr, hm, hf, hk, hlt, hx⟩ := hrel
      obtain ⟨va1, vc1, rfl⟩ := hn.slice
      clear N3 P3 R3 M3 HX HF HL9 HYL1 RX NX MX P2 K2 N2 M2 RR AX HF1 HL0
      have hge := px_ge hn (Pm.of HP.out (by have := hr.lt; simp; omega) hm.kp.size)
      have IX := Lib.hid (CI.out _ s' wr hp)
      have TX := Lib.hid (CT.out _ s' wr hp hf hge (fun h => HPQ.out h.1))
      have WX := Lib.hid (CW.out _ s' wr hp hf hge (fun h => HPQ.out h.1))
      have HGE := Lib.hid hge
      have HFT := Lib.hid (fits_next hf)
      have HNX := Lib.hid hn
      have MX := Lib.hid hm
      have RX := Lib.hid hr
      have HKL := Lib.hid hk
      have HLF := Lib.hid hlt
      have IL := @is_less s' 15 [44]
      clear hn hp hr hm hf hk hlt hge CI CT CW
      cases hi : isR s' 15 [44] with
      | false =>
        rw [hi] at IX
        rw [if_neg (by rw [hi]; decide)] at hx
        have HX := Lib.hid (hx.symm.trans (closeR_eq kind 41 (foL l') s'))
        have HL : Hid (l'.length + 1 ≤ 1099511627776) := by have := HKL.out; have := HKK.out; unfold Hid; omega
        generalize wantR s' 15 [41] = y at *
        clear hi hx IL TX CA HTF HTL
        go_upto_region 6 with (first
          | (go_at_call 26; refine IX.out.mono ?_; rintro e w1 ⟨rfl, rfl⟩))
        by_cases y0 : y.e = 0
        · have hx := HX.out
          rw [if_pos y0] at hx
          have HXX := Lib.hid hx
          rw [POut.ok y0] at WX
          unfold OkOut ndV at WX
          clear hx y0 HX
          go_wp2_with (first
            | (go_at_call 92; refine WX.out.mono ?_; rintro e w2 ⟨ka2, kc2, rfl, k2, p2, q2⟩; have P2 := Lib.hid p2; have K2 := Lib.hid k2; have N2 := Lib.hid (HNX.out.kp q2 HPQ.out); have M2 := Lib.hid (MX.out.trans (Mq.of_kp q2)); have r2 := kp_lies q2 RX.out (by have := HLT.out; omega) (by simp); have RR := Lib.hid r2; have Z2 := Lib.hid q2.size; clear k2 p2 q2 r2)
            | (at_builtin; refine append_lit w2 rfl _ _ rfl 0 (Pm P [w.heap.size]) (.slice va1 l'.length vc1) l' [⟨y.h, y.k, .slice ka2 (len y.k) kc2⟩] rfl N2.out _ _ rfl _ _ rfl rfl (fun x hx => by rw [List.mem_singleton.1 hx]; exact K2.out) HL.out (Nat.zero_le _) (fun b hb => ⟨HP.out b (by have := M2.out.kp.size; omega), by have := RR.out.lt; simp; omega⟩) ?_; intro v3 w3 n3 m3; have k3 := n3.on (by have := HL.out; unfold maxLen; rw [List.length_append]; simp; omega); rw [foL_push] at k3; have P3 := Lib.hid (P2.out.move m3 (N2.out.noown HPQ.out)); have M3 := Lib.hid (M2.out.trans (Mq.of_mv m3)); have R3 := Lib.hid (m3.lies RR.out (fun e => (N2.out.own _ e).2 (by simp))); obtain ⟨ka3, kc3, rfl⟩ := k3.len; have K3 := Lib.hid k3; clear n3 m3 k3; have ND := Lib.hid (fun W => node_any kind ka3 (len (pushF (foL l') y)) kc3 W))
            | (go_at_call 27; refine (ND.out _).mono ?_; rintro e w4 ⟨rfl, b4⟩; have B4 := Lib.hid b4; have r4 := R3.out.below b4 R3.out.lt; clear b4; unfold zNd at r4; obtain ⟨⟨e0, e1, e2, e3, e4, e5⟩, f0, f1, f2, f3, f4, f5⟩ := r4.nodef; have R9 := Lib.hid r4; clear r4; unfold ndV))
          refine bodyPost_ret (res_nd Tryz.results91 rfl (Lies.all6 R9.out (nodeH kind) (.slice ka3 (len (pushF (foL l') y)) kc3))) rfl ?_
          rw [HXX.out, POut.ok rfl]
          exact six_ok (x := ⟨nodeH kind, pushF (foL l') y, y.s, 0⟩) ((K3.out.below B4.out (Nat.le_refl _))) ((P3.out.below B4.out).less (fun b _ h => h.1)) (Kp.bel M3.out.kp B4.out) (by have := HLT.out; omega) (Nat.le_refl _)
        · have hx := HX.out
          rw [if_neg y0] at hx
          have HXX := Lib.hid hx
          have Y0 := Lib.hid y0
          rw [POut.bad y0] at WX
          unfold BadOut fltV at WX
          clear hx y0 HX
          go_wp2_with (first
            | (go_at_call 92; refine WX.out.mono ?_; rintro e w2 ⟨ta2, tc2, oa2, oc2, rfl, s2, q2⟩; have S2 := Lib.hid s2; have M2 := Lib.hid (MX.out.trans (Mq.of_kp q2)); clear s2 q2))
          refine ⟨rfl, ?_⟩
          rw [HXX.out, POut.bad Y0.out]
          exact ⟨ta2, tc2, oa2, oc2, rfl, S2.out.less (fun b _ h => h.1.1), M2.out.kp⟩
      | true =>
        rw [hi] at IX
        rw [if_pos (by rw [hi])] at hx
        have IL := IL hi (by decide)
        have hy : takeR s' = ⟨leafH (tk s'), .nil, nx s', 0⟩ := take_ok IL.1
        rw [hy] at hx IL
        dsimp only at hx IL
        have HIL := Lib.hid IL.2.2
        have HFQ := Lib.hid (HTF.out _ HFT.out)
        have HQL := Lib.hid (fun h => lv_less (HTL.out (nx s') h))
        have AQ := Lib.hid (fun Q W a b d => CA.out Q (nx s') W a HFT.out b d)
        obtain ⟨f, rfl⟩ : ∃ g, f = g + 1 := ⟨f - 1, by have := HLF.out; have := IL.2.2; omega⟩
        unfold typesR at hx
        have HX := Lib.hid hx
        generalize T (nx s') = q at *
        generalize tk s' = t0 at *
        generalize nx s' = s2 at *
        clear hi hx IL hy CA WX
        by_cases q0 : q.e = 0
        · have hx := HX.out
          rw [if_pos q0] at hx
          have HX := Lib.hid hx
          have HQL1 := Lib.hid (HQL.out q0)
          have AQ := Lib.hid (fun Q W a b d => as_ok (AQ.out Q W a b d) q0)
          unfold OkOut ndV at AQ
          clear hx q0 HQL
          go_wp2_with (first
            | (go_at_call 26; refine IX.out.mono ?_; rintro e w1 ⟨rfl, rfl⟩)
            | (go_at_call 28; refine TX.out.mono ?_; rintro e w2 ⟨rfl, p2, q2⟩; have A2 := Lib.hid (AQ.out (Px (Pm P [w.heap.size]) (.slice va1 l'.length vc1)) w2 p2 (fun b hb => HGE.out b (Nat.le_trans q2.size hb)) (fun h => HPQ.out h.1)); have M2 := Lib.hid (MX.out.trans (Mq.of_kp q2)); have N2 := Lib.hid (HNX.out.kp q2 HPQ.out); have RR := Lib.hid (kp_lies q2 RX.out (by have := HLT.out; omega) (by simp)); clear p2 q2)
            | (go_at_call 29; refine A2.out.mono ?_; rintro e w3 ⟨ka3, kc3, rfl, k3, p3, q3⟩; have P3 := Lib.hid p3; have K3 := Lib.hid k3; have N3 := Lib.hid (N2.out.kp q3 HPQ.out); have M3 := Lib.hid (M2.out.trans (Mq.of_kp q3)); have R3 := Lib.hid (kp_lies q3 RR.out (by have := HLT.out; omega) (by simp)); clear k3 p3 q3)
            | (at_builtin; refine append_lit w3 rfl _ _ rfl 0 (Pm P [w.heap.size]) (.slice va1 l'.length vc1) l' [⟨leafH t0, .nil, .slice none 0 0⟩, ⟨q.h, q.k, .slice ka3 (len q.k) kc3⟩] rfl N3.out _ _ rfl _ _ rfl rfl (fun x hx => by rcases List.mem_cons.1 hx with e | e; exact e ▸ KOn.nil .. ; exact (List.mem_singleton.1 e) ▸ K3.out) (by have := HKL.out; have := HKK.out; have := HIL.out; simp; omega) (Nat.zero_le _) (fun b hb => ⟨HP.out b (by have := M3.out.kp.size; omega), by have := R3.out.lt; simp; omega⟩) ?_; intro v4 w4 n4 m4; have P4 := Lib.hid (P3.out.move m4 (N3.out.noown HPQ.out)); have M4 := Lib.hid (M3.out.trans (Mq.of_mv m4)); have R4 := Lib.hid (m4.lies R3.out (fun e => (N3.out.own _ e).2 (by simp))); have N4 := Lib.hid n4; clear n4 m4))
          obtain ⟨va4, vc4, e4⟩ := N4.out.slice
          have hk := HKL.out
          have hl := HLF.out
          have hi := HIL.out
          have hq := HQL1.out
          refine ⟨⟨_, q.s, f, 5, rfl, N4.out, P4.out, R4.out, M4.out, HFQ.out, ?_, ?_, ?_⟩, ?_⟩
          · simp only [List.length_append, List.length_cons, List.length_nil]
            omega
          · omega
          · rw [foL_two l' ⟨leafH t0, .nil, s2, 0⟩ q]
            exact HX.out
          · rw [e4]
            simp only [lenOf, List.length_append, List.length_cons, List.length_nil]
            omega
        · have hx := HX.out
          rw [if_neg q0] at hx
          have HX := Lib.hid hx
          have Q0 := Lib.hid q0
          have AQ := Lib.hid (fun Q W a b d => as_bad (AQ.out Q W a b d) q0)
          unfold BadOut fltV at AQ
          clear hx q0 HQL
          go_wp2_with (first
            | (go_at_call 26; refine IX.out.mono ?_; rintro e w1 ⟨rfl, rfl⟩)
            | (go_at_call 28; refine TX.out.mono ?_; rintro e w2 ⟨rfl, p2, q2⟩; have A2 := Lib.hid (AQ.out (Px (Pm P [w.heap.size]) (.slice va1 l'.length vc1)) w2 p2 (fun b hb => HGE.out b (Nat.le_trans q2.size hb)) (fun h => HPQ.out h.1)); have M2 := Lib.hid (MX.out.trans (Mq.of_kp q2)); have N2 := Lib.hid (HNX.out.kp q2 HPQ.out); have RR := Lib.hid (kp_lies q2 RX.out (by have := HLT.out; omega) (by simp)); clear p2 q2)
            | (go_at_call 29; refine A2.out.mono ?_; rintro e w3 ⟨ta3, tc3, oa3, oc3, rfl, s3, q3⟩; have S3 := Lib.hid s3; have M3 := Lib.hid (M2.out.trans (Mq.of_kp q3)); clear s3 q3))
          refine ⟨rfl, ?_⟩
          rw [← HX.out, POut.bad Q0.out]
          exact ⟨ta3, tc3, oa3, oc3, rfl, S3.out.less (fun b _ h => h.1.1), M3.out.kp⟩
  · have hx := HX.out
    rw [if_neg h0] at hx
    have HX := Lib.hid hx
    have H0 := Lib.hid h0
    rw [POut.bad h0] at AX
    unfold BadOut fltV at AX
    clear hx h0 HYL
    go_wp2_with (first
      | (go_at_call 29; refine AX.out.mono ?_; rintro e w2 ⟨ta2, tc2, oa2, oc2, rfl, s2, q2⟩; have S2 := Lib.hid s2; have M2 := Lib.hid (MX.out.trans (Mq.of_kp q2)); clear s2 q2))
    refine ⟨rfl, ?_⟩
    rw [HX.out, POut.bad H0.out]
    exact ⟨ta2, tc2, oa2, oc2, rfl, S2.out.less (fun b _ h => h.1.1), M2.out.kp⟩
end Go.Proofs.YtmgclgojmckfhaaGreatDoor.Typ
/-
  The program's parser: round. Conditions: what the program's Next and arrow do, and sizes that are borne.
-/
namespace Go.Proofs.YtmgclgojmckfhaaGreatDoor.Typ
open Tks Tre Go.RowKit
open Lay (Sx StV Fit9 nextS NextOut tkV9 IntArg Kp)
set_option linter.unusedSimpArgs false
set_option linter.unusedVariables false

theorem is_diff {s : Sx} {k k' : Int} {x x' : List UInt8} (h : isR s k x = true) (hk : k ≠ k' ∨ x ≠ x') : isR s k' x' = false := by
  unfold isR at h ⊢
  simp only [Bool.and_eq_true, beq_iff_eq] at h
  obtain ⟨h1, h2, h3⟩ := h
  rw [h2, h3]
  rcases hk with q | q
  · rw [show (k == k') = false from beq_eq_false_iff_ne.2 q]
    simp
  · rw [show (x == x') = false from beq_eq_false_iff_ne.2 q]
    simp
theorem mq_lit {w w2 : World} {pb : Nat} (h : Kp w w2 pb none) (o : Obj) (n c : Nat) : Mq w (w2.alloc o) pb (.slice none 0 0) (.slice (some ⟨w2.heap.size, 0, none⟩) n c) :=
  ⟨Kp.bel h (below_one w2 o), .inr ⟨w2.heap.size, rfl, h.size⟩⟩
theorem commas_close {s : Sx} (l : Fo) (h : isR s 15 [44] = false) : commasR (fu s) l s = closeR 3 41 l s := by
  unfold fu commasR
  rw [if_neg (by rw [h]; decide)]
set_option maxRecDepth 1000000 in
set_option maxHeartbeats 1000000 in
theorem pround_any {N : Nat} (hN : N ≤ 1099511627776) (hN2 : 12 * N + 20 ≤ 1099511627776) (R : NextOn 49) (T : Sx → Rd) (hTF : ∀ s, Fits N s → Fits N (T s).s) (hTL : ∀ s, Lv s (T s)) (deep deep1 : Int) (hd : IntKind.i64.wrap (deep - 1) = deep1) (P : Nat → Prop) (pb : Nat) (CA : ∀ (P : Nat → Prop) (s : Sx) (W : World), Par W P pb s → Fits N s → (∀ b, W.heap.size ≤ b → P b) → ¬ P pb → Calls Tryz.prog 29 #[.pointer (some ⟨pb, 0, none⟩), .int .i64 deep1] W (POut (T s) P pb none W)) (s : Sx) (w : World) (hp : Par w P pb s) (hf : Fits N s) (hP : ∀ b, w.heap.size ≤ b → P b) (hpb : ¬ P pb) (he : er s = 0) :
    Calls Tryz.prog 67 #[.pointer (some ⟨pb, 0, none⟩), .int .i64 deep] w (POut (roundR T (oneF (takeR s)) (takeR s).s) P pb none w) := by
  have CI1 := Lib.hid (fun Q W h => pis_any Q pb (nx s) 10 (by decide) ⟨#[45, 62]⟩ W h)
  have CI2 := Lib.hid (fun Q W h => pis_any Q pb (nx s) 15 (by decide) ⟨#[44]⟩ W h)
  have CI3 := Lib.hid (fun Q W h => pis_any Q pb (nx s) 15 (by decide) ⟨#[41]⟩ W h)
  change Hid (∀ Q W, _ → Calls _ _ _ _ (fun e w' => e = .returned (.bool (isR (nx s) 10 [45, 62])) ∧ _)) at CI1
  change Hid (∀ Q W, _ → Calls _ _ _ _ (fun e w' => e = .returned (.bool (isR (nx s) 15 [44])) ∧ _)) at CI2
  change Hid (∀ Q W, _ → Calls _ _ _ _ (fun e w' => e = .returned (.bool (isR (nx s) 15 [41])) ∧ _)) at CI3
  have CT0 := Lib.hid (fun Q W a b d => ptake_any hN R Q pb s W a hf b d)
  have CT1 := Lib.hid (fun Q W a b d => ptake_any hN R Q pb (nx s) W a (fits_next hf) b d)
  unfold ndV at CT0 CT1
  have CW := Lib.hid (fun Q s W a hf b d => pwant_any hN R Q pb s 41 W a hf b d)
  have hlf := nx_lf he hf
  have HLF := Lib.hid hlf
  have HF1 := Lib.hid (fits_next hf)
  have CC := Lib.hid (fun Q v l W a b c d h => pcommas_any hN R Q pb v l (nx s) W a b (fits_next hf) c d 1099511627775 (Nat.le_refl _) h)
  have CY := Lib.hid (fun Q v l W a b c d h => ptypes_any hN R T hTF hTL deep deep1 hd Q pb CA v l (nx s) W a b (fits_next hf) c d 1099511627776 (Nat.le_refl _) h)
  have hty : takeR s = ⟨leafH (tk s), .nil, nx s, 0⟩ := if_pos he
  have HPA := Lib.hid hp
  have HP := Lib.hid hP
  have HPB := Lib.hid hpb
  have HPQ : Hid (¬ (Pm P [w.heap.size]) pb) := fun h => hpb h.1
  have HLT := Lib.hid hp.lt
  obtain ⟨x, hx⟩ : ∃ x, roundR T (oneF (takeR s)) (takeR s).s = x := ⟨_, rfl⟩
  rw [hx]
  rw [hty] at hx
  dsimp only at hx
  have IL := @is_less (nx s) 10 [45, 62]
  generalize tk s = t0 at *
  generalize nx s = s1 at *
  have HX := Lib.hid hx
  have HFT := Lib.hid (fits_next HF1.out)
  clear hp hf hP hpb R hTF hTL hx hty CA he hlf
  go_enter Tryz.func67, Tryz.ntmps67
  go_upto_region 1 with fail
  refine gen_world (fun X => Below w.heap.size w X ∧ Lies X w.heap.size zNd) ⟨below_one w _, Lies.new w _⟩ ?_
  rintro X ⟨bX, rX⟩
  have pX := HPA.out.into (l := [w.heap.size]) bX (by simp)
  have hgX := Pm.of (l := [w.heap.size]) HP.out (by have := rX.lt; simp; omega) bX.size
  have TX := Lib.hid (CT0.out (Pm P [w.heap.size]) X pX hgX HPQ.out)
  have BX := Lib.hid bX
  have RX := Lib.hid rX
  have HGX := Lib.hid hgX
  clear bX rX pX hgX CT0 HPA
  go_upto_region 2 with (first
    | (go_at_call 28; refine TX.out.mono ?_; rintro e w2 ⟨rfl, p2, q2⟩; have P2 := Lib.hid p2; have K2 := Lib.hid ((Kp.of_below BX.out).trans q2); have RR := Lib.hid (kp_lies q2 RX.out (by have := HLT.out; omega) (by simp)); have Z2 := Lib.hid q2.size; clear p2 q2))
  obtain ⟨l8, hl8⟩ : ∃ l8 : List Nv, [(⟨leafH t0, .nil, .slice none 0 0⟩ : Nv)] = l8 := ⟨_, rfl⟩
  have E8 : Hid (foL l8 = oneF ⟨leafH t0, .nil, s1, 0⟩) := by rw [← hl8]; rfl
  have HL8 : Hid (l8.length = 1) := by rw [← hl8]; rfl
  refine gen_world (fun V => NdP V 0 (Pm P [w.heap.size]) (.slice (some ⟨w2.heap.size, 0, none⟩) 1 1) l8 ∧ Par V (Px (Pm P [w.heap.size]) (.slice (some ⟨w2.heap.size, 0, none⟩) 1 1)) pb s1 ∧ Lies V w.heap.size zNd ∧ Mq w V pb (.slice none 0 0) (.slice (some ⟨w2.heap.size, 0, none⟩) 1 1)) ⟨hl8 ▸ NdP.lit (w := w2) (B := 0) (P := (Pm P [w.heap.size])) [(⟨leafH t0, .nil, .slice none 0 0⟩ : Nv)] (cs := #[.int .i64 1, .int .i64 t0.kind, .string t0.text, .int .i64 t0.line, .int .i64 t0.col, .slice none 0 0]) rfl (fun x hx => by rw [List.mem_singleton.1 hx]; exact KOn.nil ..) (Nat.zero_le _) (one_len _) (HGX.out _ Z2.out), P2.out.lit _ _ _, RR.out.alloc _, mq_lit K2.out _ _ _⟩ ?_
  rintro V ⟨nV, pV, rV, mV⟩
  generalize ((.slice (some ⟨w2.heap.size, 0, none⟩) 1 1) : Value) = v1 at *
  clear hl8 TX P2 K2 RR Z2 RX BX HGX
  have hge := px_ge nV (Pm.of HP.out (by have := rV.lt; simp; omega) mV.kp.size)
  have I1 := Lib.hid (CI1.out _ V pV)
  have I2 := Lib.hid (CI2.out _ V pV)
  have I3 := Lib.hid (CI3.out _ V pV)
  have T1 := Lib.hid (CT1.out _ V pV hge (fun h => HPQ.out h.1))
  have W1 := Lib.hid (CW.out _ s1 V pV HF1.out hge (fun h => HPQ.out h.1))
  have C1 := Lib.hid (CC.out _ v1 l8 V nV pV (Pm.of HP.out (by have := rV.lt; simp; omega) mV.kp.size) HPQ.out (by have := HL8.out; have := HLF.out; omega))
  have Y1 := Lib.hid (CY.out _ v1 l8 V nV pV (Pm.of HP.out (by have := rV.lt; simp; omega) mV.kp.size) HPQ.out (by have := HL8.out; have := HLF.out; omega))
  have HN := Lib.hid nV
  have HM := Lib.hid mV
  have HR := Lib.hid rV
  clear nV pV rV mV hge CI1 CI2 CI3 CT1 CC CY
  have u1 : True := trivial
  cases h1 : isR s1 10 [45, 62] with
  | true =>
    rw [h1] at I1
    have IL1 := IL h1 (by decide)
    have hy1 : takeR s1 = ⟨leafH (tk s1), .nil, nx s1, 0⟩ := take_ok IL1.1
    have hx := HX.out
    unfold roundR at hx
    rw [if_neg (by rw [is_diff h1 (.inl (by decide)), is_diff h1 (.inl (by decide))]; decide), if_pos h1, hy1] at hx
    dsimp only at hx
    rw [← E8.out, ← foL_push l8 ⟨leafH (tk s1), .nil, nx s1, 0⟩ (.slice none 0 0), closeR_eq] at hx
    have HX := Lib.hid hx.symm
    generalize tk s1 = t1 at *
    generalize nx s1 = s2 at *
    dsimp only at HX
    obtain ⟨l9, hl9⟩ : ∃ l9, l8 ++ [(⟨leafH t1, .nil, .slice none 0 0⟩ : Nv)] = l9 := ⟨_, rfl⟩
    rw [hl9] at HX
    have HL : Hid (l9.length + 1 ≤ 1099511627776) := by
      have := HL8.out
      unfold Hid
      rw [← hl9, List.length_append, List.length_singleton]
      omega
    clear IL IL1 h1 hy1 hx W1 C1 Y1 I2 I3
    go_upto_region 8 with (first
      | (go_at_call 26; clear u1; have u2 : True := trivial; refine I1.out.mono ?_; rintro e w1 ⟨rfl, rfl⟩)
      | (go_at_call 28; refine T1.out.mono ?_; rintro e w3 ⟨rfl, p3, q3⟩; have P3 := Lib.hid p3; have N3 := Lib.hid (HN.out.kp q3 HPQ.out); have M3 := Lib.hid (HM.out.trans (Mq.of_kp q3)); have R3 := Lib.hid (kp_lies q3 HR.out (by have := HLT.out; omega) (by simp)); clear p3 q3)
      | (at_builtin; refine append_lit w3 rfl _ _ rfl 0 (Pm P [w.heap.size]) v1 l8 [⟨leafH t1, .nil, .slice none 0 0⟩] rfl N3.out _ _ rfl _ _ rfl rfl (fun x hx => by rw [List.mem_singleton.1 hx]; exact KOn.nil ..) (by have := HL8.out; simp; omega) (Nat.zero_le _) (fun b hb => ⟨HP.out b (by have := M3.out.kp.size; omega), by have := R3.out.lt; simp; omega⟩) ?_; intro v4 w4 n4 m4; have P4 := Lib.hid (P3.out.move m4 (N3.out.noown HPQ.out)); have MX := Lib.hid (M3.out.trans (Mq.of_mv m4)); have RX := Lib.hid (m4.lies R3.out (fun e => (N3.out.own _ e).2 (by simp))); have HNX := Lib.hid n4; clear n4 m4))
    rw [hl9] at HNX
    have WX := Lib.hid (CW.out (Px (Pm P [w.heap.size]) v4) s2 w4 P4.out HFT.out (px_ge HNX.out (Pm.of HP.out (by have := RX.out.lt; simp; omega) MX.out.kp.size)) (fun h => HPQ.out h.1))
    generalize wantR s2 15 [41] = y at *
    clear hl9 HN HM HR P3 N3 M3 R3 CW
    by_cases y0 : y.e = 0
    · have hx := HX.out
      rw [if_pos y0] at hx
      have HXX := Lib.hid hx
      rw [POut.ok y0] at WX
      unfold OkOut ndV at WX
      clear hx y0 HX
      go_wp2_with (first
        | (go_at_call 92; refine WX.out.mono ?_; rintro e w2 ⟨ka2, kc2, rfl, k2, p2, q2⟩; have P2 := Lib.hid p2; have K2 := Lib.hid k2; have N2 := Lib.hid (HNX.out.kp q2 HPQ.out); have M2 := Lib.hid (MX.out.trans (Mq.of_kp q2)); have r2 := kp_lies q2 RX.out (by have := HLT.out; omega) (by simp); have RR := Lib.hid r2; have Z2 := Lib.hid q2.size; clear k2 p2 q2 r2)
        | (at_builtin; refine append_lit w2 rfl _ _ rfl 0 (Pm P [w.heap.size]) v4 l9 [⟨y.h, y.k, .slice ka2 (len y.k) kc2⟩] rfl N2.out _ _ rfl _ _ rfl rfl (fun x hx => by rw [List.mem_singleton.1 hx]; exact K2.out) HL.out (Nat.zero_le _) (fun b hb => ⟨HP.out b (by have := M2.out.kp.size; omega), by have := RR.out.lt; simp; omega⟩) ?_; intro v3 w3 n3 m3; have k3 := n3.on (by have := HL.out; unfold maxLen; rw [List.length_append]; simp; omega); rw [foL_push] at k3; have P3 := Lib.hid (P2.out.move m3 (N2.out.noown HPQ.out)); have M3 := Lib.hid (M2.out.trans (Mq.of_mv m3)); have R3 := Lib.hid (m3.lies RR.out (fun e => (N2.out.own _ e).2 (by simp))); obtain ⟨ka3, kc3, rfl⟩ := k3.len; have K3 := Lib.hid k3; clear n3 m3 k3; have ND := Lib.hid (fun W => node_any 3 ka3 (len (pushF (foL l9) y)) kc3 W))
        | (go_at_call 27; refine (ND.out _).mono ?_; rintro e w4 ⟨rfl, b4⟩; have B4 := Lib.hid b4; have r4 := R3.out.below b4 R3.out.lt; clear b4; unfold zNd at r4; obtain ⟨⟨e0, e1, e2, e3, e4, e5⟩, f0, f1, f2, f3, f4, f5⟩ := r4.nodef; have R9 := Lib.hid r4; clear r4; unfold ndV))
      refine bodyPost_ret (res_nd Tryz.results67 rfl (Lies.all6 R9.out (nodeH 3) (.slice ka3 (len (pushF (foL l9) y)) kc3))) rfl ?_
      rw [HXX.out, POut.ok rfl]
      exact six_ok (x := ⟨nodeH 3, pushF (foL l9) y, y.s, 0⟩) ((K3.out.below B4.out (Nat.le_refl _))) ((P3.out.below B4.out).less (fun b _ h => h.1)) (Kp.bel M3.out.kp B4.out) (by have := HLT.out; omega) (Nat.le_refl _)
    · have hx := HX.out
      rw [if_neg y0] at hx
      have HXX := Lib.hid hx
      have Y0 := Lib.hid y0
      rw [POut.bad y0] at WX
      unfold BadOut fltV at WX
      clear hx y0 HX
      go_wp2_with (first
        | (go_at_call 92; refine WX.out.mono ?_; rintro e w2 ⟨ta2, tc2, oa2, oc2, rfl, s2, q2⟩; have S2 := Lib.hid s2; have M2 := Lib.hid (MX.out.trans (Mq.of_kp q2)); clear s2 q2))
      refine ⟨rfl, ?_⟩
      rw [HXX.out, POut.bad Y0.out]
      exact ⟨ta2, tc2, oa2, oc2, rfl, S2.out.less (fun b _ h => h.1.1), M2.out.kp⟩
  | false =>
    rw [h1] at I1
    cases h2 : isR s1 15 [44] with
    | true =>
      rw [h2] at I2
      have hx := HX.out
      unfold roundR at hx
      rw [if_pos (.inr h2), ← E8.out] at hx
      have HX := Lib.hid hx.symm
      clear IL h1 h2 hx W1 Y1 I3 T1
      go_upto_region 8 with (first
        | (go_at_call 26; clear u1; have u2 : True := trivial; refine I1.out.mono ?_; rintro e w1 ⟨rfl, rfl⟩)
        | (go_at_call 26; clear u2; have u3 : True := trivial; refine I2.out.mono ?_; rintro e w1 ⟨rfl, rfl⟩)
        | (go_at_call 90; refine C1.out.mono ?_; rintro e w3 ⟨v4, l9, s2, rfl, n3, p3, m3, f3, l3, e3⟩; have P4 := Lib.hid p3; have HNX := Lib.hid n3; have MX := Lib.hid (HM.out.trans m3); have RX := Lib.hid (kp_lies m3.kp HR.out (by have := HLT.out; omega) (fun e => (HN.out.own _ e.symm).2 (by simp))); have F3 := Lib.hid f3; have L3 := Lib.hid l3; have E3 := Lib.hid e3; clear p3 n3 m3 f3 l3 e3))
      have hx := HX.out.trans E3.out
      rw [closeR_eq] at hx
      have HX := Lib.hid hx
      have HL : Hid (l9.length + 1 ≤ 1099511627776) := by
        have := L3.out
        unfold Hid
        omega
      have WX := Lib.hid (CW.out (Px (Pm P [w.heap.size]) v4) s2 w3 P4.out F3.out (px_ge HNX.out (Pm.of HP.out (by have := RX.out.lt; simp; omega) MX.out.kp.size)) (fun h => HPQ.out h.1))
      generalize wantR s2 15 [41] = y at *
      clear hx HN HM HR CW E3 L3 E8 HL8
      by_cases y0 : y.e = 0
      · have hx := HX.out
        rw [if_pos y0] at hx
        have HXX := Lib.hid hx
        rw [POut.ok y0] at WX
        unfold OkOut ndV at WX
        clear hx y0 HX
        go_wp2_with (first
          | (go_at_call 92; refine WX.out.mono ?_; rintro e w2 ⟨ka2, kc2, rfl, k2, p2, q2⟩; have P2 := Lib.hid p2; have K2 := Lib.hid k2; have N2 := Lib.hid (HNX.out.kp q2 HPQ.out); have M2 := Lib.hid (MX.out.trans (Mq.of_kp q2)); have r2 := kp_lies q2 RX.out (by have := HLT.out; omega) (by simp); have RR := Lib.hid r2; have Z2 := Lib.hid q2.size; clear k2 p2 q2 r2)
          | (at_builtin; refine append_lit w2 rfl _ _ rfl 0 (Pm P [w.heap.size]) v4 l9 [⟨y.h, y.k, .slice ka2 (len y.k) kc2⟩] rfl N2.out _ _ rfl _ _ rfl rfl (fun x hx => by rw [List.mem_singleton.1 hx]; exact K2.out) HL.out (Nat.zero_le _) (fun b hb => ⟨HP.out b (by have := M2.out.kp.size; omega), by have := RR.out.lt; simp; omega⟩) ?_; intro v3 w3 n3 m3; have k3 := n3.on (by have := HL.out; unfold maxLen; rw [List.length_append]; simp; omega); rw [foL_push] at k3; have P3 := Lib.hid (P2.out.move m3 (N2.out.noown HPQ.out)); have M3 := Lib.hid (M2.out.trans (Mq.of_mv m3)); have R3 := Lib.hid (m3.lies RR.out (fun e => (N2.out.own _ e).2 (by simp))); obtain ⟨ka3, kc3, rfl⟩ := k3.len; have K3 := Lib.hid k3; clear n3 m3 k3; have ND := Lib.hid (fun W => node_any 3 ka3 (len (pushF (foL l9) y)) kc3 W))
          | (go_at_call 27; refine (ND.out _).mono ?_; rintro e w4 ⟨rfl, b4⟩; have B4 := Lib.hid b4; have r4 := R3.out.below b4 R3.out.lt; clear b4; unfold zNd at r4; obtain ⟨⟨e0, e1, e2, e3, e4, e5⟩, f0, f1, f2, f3, f4, f5⟩ := r4.nodef; have R9 := Lib.hid r4; clear r4; unfold ndV))
        refine bodyPost_ret (res_nd Tryz.results67 rfl (Lies.all6 R9.out (nodeH 3) (.slice ka3 (len (pushF (foL l9) y)) kc3))) rfl ?_
        rw [HXX.out, POut.ok rfl]
        exact six_ok (x := ⟨nodeH 3, pushF (foL l9) y, y.s, 0⟩) ((K3.out.below B4.out (Nat.le_refl _))) ((P3.out.below B4.out).less (fun b _ h => h.1)) (Kp.bel M3.out.kp B4.out) (by have := HLT.out; omega) (Nat.le_refl _)
      · have hx := HX.out
        rw [if_neg y0] at hx
        have HXX := Lib.hid hx
        have Y0 := Lib.hid y0
        rw [POut.bad y0] at WX
        unfold BadOut fltV at WX
        clear hx y0 HX
        go_wp2_with (first
          | (go_at_call 92; refine WX.out.mono ?_; rintro e w2 ⟨ta2, tc2, oa2, oc2, rfl, s2, q2⟩; have S2 := Lib.hid s2; have M2 := Lib.hid (MX.out.trans (Mq.of_kp q2)); clear s2 q2))
        refine ⟨rfl, ?_⟩
        rw [HXX.out, POut.bad Y0.out]
        exact ⟨ta2, tc2, oa2, oc2, rfl, S2.out.less (fun b _ h => h.1.1), M2.out.kp⟩
    | false =>
      rw [h2] at I2
      cases h3 : isR s1 15 [41] with
      | true =>
        rw [h3] at I3
        have hx := HX.out
        unfold roundR at hx
        rw [if_pos (.inl h3), ← E8.out, commas_close _ h2, closeR_eq] at hx
        have HX := Lib.hid hx.symm
        have HL : Hid (l8.length + 1 ≤ 1099511627776) := by
          have := HL8.out
          unfold Hid
          omega
        have WX := W1
        have HNX := HN
        have MX := HM
        have RX := HR
        generalize wantR s1 15 [41] = y at *
        clear IL h1 h2 h3 hx W1 Y1 C1 T1 HN HM HR CW E8 HL8
        go_upto_region 8 with (first
          | (go_at_call 26; clear u1; have u2 : True := trivial; refine I1.out.mono ?_; rintro e w1 ⟨rfl, rfl⟩)
          | (go_at_call 26; clear u2; have u3 : True := trivial; refine I2.out.mono ?_; rintro e w1 ⟨rfl, rfl⟩)
          | (go_at_call 26; clear u3; have u4 : True := trivial; refine I3.out.mono ?_; rintro e w1 ⟨rfl, rfl⟩))
        by_cases y0 : y.e = 0
        · have hx := HX.out
          rw [if_pos y0] at hx
          have HXX := Lib.hid hx
          rw [POut.ok y0] at WX
          unfold OkOut ndV at WX
          clear hx y0 HX
          go_wp2_with (first
            | (go_at_call 92; refine WX.out.mono ?_; rintro e w2 ⟨ka2, kc2, rfl, k2, p2, q2⟩; have P2 := Lib.hid p2; have K2 := Lib.hid k2; have N2 := Lib.hid (HNX.out.kp q2 HPQ.out); have M2 := Lib.hid (MX.out.trans (Mq.of_kp q2)); have r2 := kp_lies q2 RX.out (by have := HLT.out; omega) (by simp); have RR := Lib.hid r2; have Z2 := Lib.hid q2.size; clear k2 p2 q2 r2)
            | (at_builtin; refine append_lit w2 rfl _ _ rfl 0 (Pm P [w.heap.size]) v1 l8 [⟨y.h, y.k, .slice ka2 (len y.k) kc2⟩] rfl N2.out _ _ rfl _ _ rfl rfl (fun x hx => by rw [List.mem_singleton.1 hx]; exact K2.out) HL.out (Nat.zero_le _) (fun b hb => ⟨HP.out b (by have := M2.out.kp.size; omega), by have := RR.out.lt; simp; omega⟩) ?_; intro v3 w3 n3 m3; have k3 := n3.on (by have := HL.out; unfold maxLen; rw [List.length_append]; simp; omega); rw [foL_push] at k3; have P3 := Lib.hid (P2.out.move m3 (N2.out.noown HPQ.out)); have M3 := Lib.hid (M2.out.trans (Mq.of_mv m3)); have R3 := Lib.hid (m3.lies RR.out (fun e => (N2.out.own _ e).2 (by simp))); obtain ⟨ka3, kc3, rfl⟩ := k3.len; have K3 := Lib.hid k3; clear n3 m3 k3; have ND := Lib.hid (fun W => node_any 3 ka3 (len (pushF (foL l8) y)) kc3 W))
            | (go_at_call 27; refine (ND.out _).mono ?_; rintro e w4 ⟨rfl, b4⟩; have B4 := Lib.hid b4; have r4 := R3.out.below b4 R3.out.lt; clear b4; unfold zNd at r4; obtain ⟨⟨e0, e1, e2, e3, e4, e5⟩, f0, f1, f2, f3, f4, f5⟩ := r4.nodef; have R9 := Lib.hid r4; clear r4; unfold ndV))
          refine bodyPost_ret (res_nd Tryz.results67 rfl (Lies.all6 R9.out (nodeH 3) (.slice ka3 (len (pushF (foL l8) y)) kc3))) rfl ?_
          rw [HXX.out, POut.ok rfl]
          exact six_ok (x := ⟨nodeH 3, pushF (foL l8) y, y.s, 0⟩) ((K3.out.below B4.out (Nat.le_refl _))) ((P3.out.below B4.out).less (fun b _ h => h.1)) (Kp.bel M3.out.kp B4.out) (by have := HLT.out; omega) (Nat.le_refl _)
        · have hx := HX.out
          rw [if_neg y0] at hx
          have HXX := Lib.hid hx
          have Y0 := Lib.hid y0
          rw [POut.bad y0] at WX
          unfold BadOut fltV at WX
          clear hx y0 HX
          go_wp2_with (first
            | (go_at_call 92; refine WX.out.mono ?_; rintro e w2 ⟨ta2, tc2, oa2, oc2, rfl, s2, q2⟩; have S2 := Lib.hid s2; have M2 := Lib.hid (MX.out.trans (Mq.of_kp q2)); clear s2 q2))
          refine ⟨rfl, ?_⟩
          rw [HXX.out, POut.bad Y0.out]
          exact ⟨ta2, tc2, oa2, oc2, rfl, S2.out.less (fun b _ h => h.1.1), M2.out.kp⟩
      | false =>
        rw [h3] at I3
        have hx := HX.out
        unfold roundR at hx
        rw [if_neg (by rw [h2, h3]; decide), if_neg (by rw [h1]; decide), ← E8.out] at hx
        have HX := Lib.hid hx
        generalize typesR T (fu s1) 4 (foL l8) s1 = z at *
        have HZ : Hid (z = x) := HX.out
        clear IL h1 h2 h3 hx W1 C1 T1 CW HX
        by_cases z0 : z.e = 0
        · have Y1 := Lib.hid (as_ok Y1.out z0)
          have Z0 := Lib.hid z0
          unfold OkOut ndV at Y1
          clear z0
          go_wp2_with (first
            | (go_at_call 26; clear u1; have u2 : True := trivial; refine I1.out.mono ?_; rintro e w1 ⟨rfl, rfl⟩)
            | (go_at_call 26; clear u2; have u3 : True := trivial; refine I2.out.mono ?_; rintro e w1 ⟨rfl, rfl⟩)
            | (go_at_call 26; clear u3; have u4 : True := trivial; refine I3.out.mono ?_; rintro e w1 ⟨rfl, rfl⟩)
            | (go_at_call 91; refine Y1.out.mono ?_; rintro e w3 ⟨ka3, kc3, rfl, k3, p3, q3⟩; have P3 := Lib.hid p3; have K3 := Lib.hid k3; have M3 := Lib.hid (HM.out.trans (⟨q3, .inl rfl⟩ : Mq V w3 pb v1 v1)); have r4 := kp_lies q3 HR.out (by have := HLT.out; omega) (fun e => (HN.out.own _ e.symm).2 (by simp)); clear k3 p3 q3; unfold zNd at r4; obtain ⟨⟨e0, e1, e2, e3, e4, e5⟩, f0, f1, f2, f3, f4, f5⟩ := r4.nodef; have R9 := Lib.hid r4; clear r4))
          refine bodyPost_ret (res_nd Tryz.results67 rfl (Lies.all6 R9.out z.h (.slice ka3 (len z.k) kc3))) rfl ?_
          rw [← HZ.out, POut.ok Z0.out]
          exact six_ok K3.out P3.out M3.out.kp (by have := HLT.out; omega) (Nat.le_refl _)
        · have Y1 := Lib.hid (as_bad Y1.out z0)
          have Z0 := Lib.hid z0
          unfold BadOut fltV at Y1
          clear z0
          go_wp2_with (first
            | (go_at_call 26; clear u1; have u2 : True := trivial; refine I1.out.mono ?_; rintro e w1 ⟨rfl, rfl⟩)
            | (go_at_call 26; clear u2; have u3 : True := trivial; refine I2.out.mono ?_; rintro e w1 ⟨rfl, rfl⟩)
            | (go_at_call 26; clear u3; have u4 : True := trivial; refine I3.out.mono ?_; rintro e w1 ⟨rfl, rfl⟩)
            | (go_at_call 91; refine Y1.out.mono ?_; rintro e w3 ⟨ta3, tc3, oa3, oc3, rfl, s3, q3⟩; have S3 := Lib.hid s3; have M3 := Lib.hid (HM.out.trans (⟨q3, .inl rfl⟩ : Mq V w3 pb v1 v1)); clear s3 q3))
          refine ⟨rfl, ?_⟩
          rw [← HZ.out, POut.bad Z0.out]
          exact ⟨ta3, tc3, oa3, oc3, rfl, S3.out.less (fun b _ h => h.1), M3.out.kp⟩
end Go.Proofs.YtmgclgojmckfhaaGreatDoor.Typ
