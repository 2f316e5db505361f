/-
  What the program's Atom, Row, Type, Full answer. Condition: at most 2^35 tokens and blocks.
-/
import Derived.Test.YtmgclgojmckfhaaGreatDoorZPpa
import Derived.Test.YtmgclgojmckfhaaGreatDoorZTypC
import Derived.Test.YtmgclgojmckfhaaGreatDoorZDoe
import Derived.Test.YtmgclgojmckfhaaGreatDoorZTypA
import Derived.Test.YtmgclgojmckfhaaGreatDoorZLvs
import Derived.Test.YtmgclgojmckfhaaGreatDoorZLayA
import Derived.Shelf.Abstract
import Derived.Deep.RegionHeld2
namespace Go.Proofs.YtmgclgojmckfhaaGreatDoor.Typ
open Tks Tre Go.RowKit
open Lay (Sx StV Fit9 nextS NextOut tkV9 IntArg Kp)
set_option linter.unusedSimpArgs false
set_option linter.unusedVariables false

/-- The program's Next, so. -/
theorem prognext_on : NextOn 49 := nextOn_of (fun vt vo s W h1 h2 hf hk => Lay.next_from vt vo s W h1 h2 hf hk) (fun v s W hv hf hk => Lay.next_no v s W hv hf hk)
theorem pout_clean (x : Rd) (P : Nat → Prop) (pb : Nat) (g : Option Nat) (W : World) : POut (cleanR x) P pb g W = POut x P pb g W := by
  unfold cleanR
  by_cases h : x.e = 0
  · rw [if_pos h]
  · rw [if_neg h, POut.bad h, POut.bad (show (errR x.s x.e).e ≠ 0 from h)]
    rfl
/-- What is wanted of one of the parser's functions at a depth. -/
def PgC (f : FuncId) (n : Int) (T : Sx → Rd) : Prop := ∀ (pb : Nat) (P : Nat → Prop) (s : Sx) (W : World), Par W P pb s → Fits big s → (∀ b, W.heap.size ≤ b → P b) → ¬ P pb → Calls Tryz.prog f #[.pointer (some ⟨pb, 0, none⟩), .int .i64 n] W (POut (T s) P pb none W)
def tooDeep (s : Sx) : Rd := errR s 2
theorem deep_fits (s : Sx) (h : Fits big s) : Fits big (tooDeep s).s := h
theorem deep_lv (s : Sx) : Lv s (tooDeep s) := fun h => absurd h (by show ¬ (2 : Int) = 0; decide)
theorem deep_ne : Ne tooDeep := fun s h => absurd h (by show ¬ (2 : Int) = 0; decide)
theorem deep_row (s : Sx) : rowR tooDeep s = tooDeep s := by
  unfold rowR fu
  exact if_neg (show ¬ (2 : Int) = 0 by decide)
theorem deep_arrows (A : Sx → Rd) (s : Sx) : arrowsR A (tooDeep s) = tooDeep s := by
  unfold arrowsR
  exact if_neg (fun h => absurd h.1 (by show ¬ (2 : Int) = 0; decide))
theorem deep_full (s : Sx) : pfullR tooDeep s = tooDeep s := by
  unfold pfullR
  exact if_neg (show ¬ (2 : Int) = 0 by decide)
theorem deep_clean (s : Sx) : cleanR (tooDeep s) = errR s 2 := by
  unfold cleanR
  exact if_neg (show ¬ (2 : Int) = 0 by decide)
theorem big_le3 : 12 * big + 20 ≤ 1099511627776 := by decide
theorem low_atom {n : Int} (h : n < 1) : PgC 50 n tooDeep := fun pb P s W hp _ _ _ => patom_deep n h P pb s W hp
theorem low_row {n : Int} (h : n < 1) : PgC 25 n tooDeep := fun pb P s W hp hf hP hpb => by
  have q := prow_any big_le big_le3 prognext_on tooDeep deep_fits deep_lv deep_ne n P pb (fun P s W => low_atom h pb P s W) s W hp hf hP hpb
  rw [deep_row] at q
  exact q
theorem low_arrow {n : Int} (h : n < 1) : PgC 29 n tooDeep := fun pb P s W hp hf hP hpb => by
  have q := parrow_any big_le big_le2 prognext_on tooDeep deep_fits deep_lv (fun s _ h => absurd h (by show ¬ (2 : Int) = 0; decide)) n P pb (fun P s W => low_row h pb P s W) s W hp hf hP hpb
  rw [deep_arrows] at q
  exact q
theorem low_full {n : Int} (h : n < 1) : PgC 14 n tooDeep := fun pb P s W hp hf hP hpb => by
  have q := pfull_any big_le big_le2 prognext_on tooDeep deep_fits deep_lv (fun s _ h => absurd h (by show ¬ (2 : Int) = 0; decide)) n P pb (fun P s W => low_row h pb P s W) (fun P s W a b c d => by
    have q := low_arrow h pb P s W a b c d
    rw [← deep_arrows tooDeep s] at q
    exact q) s W hp hf hP hpb
  rw [deep_full] at q
  exact q
/-- A depth's functions over the types one deeper. -/
theorem up_atom {T : Sx → Rd} (hTF : ∀ s, Fits big s → Fits big (T s).s) (hTL : ∀ s, Lv s (T s)) {n n1 : Int} (hn : IntKind.i64.wrap (n - 1) = n1) (h1 : 1 ≤ n) (CT : PgC 29 n1 T) : PgC 50 n (atomR T) := fun pb P s W hp hf hP hpb =>
  patom_any big_le big_le3 prognext_on T hTF hTL n n1 hn P pb (fun P s W => CT pb P s W) s W hp hf hP hpb h1
theorem up_row {T : Sx → Rd} (hTF : ∀ s, Fits big s → Fits big (T s).s) (hTL : ∀ s, Lv s (T s)) {n n1 : Int} (hn : IntKind.i64.wrap (n - 1) = n1) (h1 : 1 ≤ n) (CT : PgC 29 n1 T) : PgC 25 n (rowR (atomR T)) := fun pb P s W hp hf hP hpb =>
  prow_any big_le big_le3 prognext_on (atomR T) (fun s h => fits_atom hTF h) (fun s => atom_lv hTL s) (atom_ne T) n P pb (fun P s W => up_atom hTF hTL hn h1 CT pb P s W) s W hp hf hP hpb
theorem up_arrow {T : Sx → Rd} (hTF : ∀ s, Fits big s → Fits big (T s).s) (hTL : ∀ s, Lv s (T s)) {n n1 : Int} (hn : IntKind.i64.wrap (n - 1) = n1) (h1 : 1 ≤ n) (CT : PgC 29 n1 T) : PgC 29 n (fun s => arrowsR (rowR (atomR T)) (rowR (atomR T) s)) := fun pb P s W hp hf hP hpb =>
  parrow_any big_le big_le2 prognext_on (rowR (atomR T)) (fun s h => fits_row (fun s h => fits_atom hTF h) h) (fun s => row_lv (fun s => atom_lv hTL s) s) (fun s hf h => rown_le hTL hf h) n P pb (fun P s W => up_row hTF hTL hn h1 CT pb P s W) s W hp hf hP hpb
theorem up_full {T : Sx → Rd} (hTF : ∀ s, Fits big s → Fits big (T s).s) (hTL : ∀ s, Lv s (T s)) {n n1 : Int} (hn : IntKind.i64.wrap (n - 1) = n1) (h1 : 1 ≤ n) (CT : PgC 29 n1 T) : PgC 14 n (pfullR (rowR (atomR T))) := fun pb P s W hp hf hP hpb =>
  pfull_any big_le big_le2 prognext_on (rowR (atomR T)) (fun s h => fits_row (fun s h => fits_atom hTF h) h) (fun s => row_lv (fun s => atom_lv hTL s) s) (fun s hf h => rown_le hTL hf h) n P pb (fun P s W => up_row hTF hTL hn h1 CT pb P s W) (fun P s W => up_arrow hTF hTL hn h1 CT pb P s W) s W hp hf hP hpb
theorem type_prog : ∀ n : Nat, n ≤ 99 → PgC 29 (n : Int) (typeN n)
  | 0, _ => low_arrow (by decide)
  | n + 1, hn => fun pb P s W hp hf hP hpb => by
    have q := up_arrow (fun s h => fits_type (N := big) n s h) (fun s => type_lv n s) (wrap_pred (n := n) (by omega)) (by omega) (type_prog n (by omega)) pb P s W hp hf hP hpb
    rw [← pout_clean] at q
    exact q
theorem min_deep {deep : Int} {n : Nat} (h : ¬ deep < 1) (hl : lim deep = n + 1) : min deep 100 = ((n + 1 : Nat) : Int) := by
  unfold lim at hl
  omega
/-- What parse tells of a form. -/
theorem form_of {K : FuncId} (hent : ∀ args w, (callFunc K args).run Tryz.prog w = .ok (.enter K args) w) (T U : Sx → Rd) (deep : Int) (C : PgC K (min deep 100) T) (hU : ∀ s, cleanR (T s) = U s) (tv ov : Value) (s : Sx) (hf : Fits big s) :
    ∀ (Q : Nat → Prop) (W : World), StOn W Q tv ov s → (∀ b, W.heap.size ≤ b → Q b) → Calls Tryz.prog 13 #[stV tv s.at_ ov s.wait, .int .i64 deep, .func (.func K) #[] #[]] W (TOut (U s) Q W) := fun Q W hs hQ => by
  have q := parse_any big_le prognext_on K hent deep (min deep 100) rfl (T s) s (fun P pb W hp hP hpb => C pb P s W hp hf hP hpb) Q tv ov W hs hf hQ
  rw [hU] at q
  exact q
theorem prog_full (deep : Int) (P : Nat → Prop) (tv ov : Value) (s : Sx) (W : World) (hs : StOn W P tv ov s) (hf : Fits big s) (hP : ∀ b, W.heap.size ≤ b → P b) :
    Calls Tryz.prog 6 #[stV tv s.at_ ov s.wait, .int .i64 deep] W (TOut (fullS s deep) P W) := by
  have he := enters_of Tryz.func14 (by kernel_rfl) rfl
  refine pfull_form (fullS s deep) s deep tv ov ?_ P W hs hP
  by_cases h : deep < 1
  · exact form_of he tooDeep (fun s => fullS s deep) deep (low_full (by omega)) (fun s => by rw [deep_clean]; exact (if_pos h).symm) tv ov s hf
  · obtain ⟨n, hn, hl⟩ := lim_pos h
    refine form_of he (pfullR (rowR (atomR (typeN n)))) (fun s => fullS s deep) deep ?_ (fun s => by
      show cleanR _ = fullS s deep
      unfold fullS
      rw [if_neg h, hl, Nat.add_sub_cancel, fullR_eq, clean_pfull]) tv ov s hf
    rw [min_deep h hl]
    exact up_full (fun s h => fits_type (N := big) n s h) (fun s => type_lv n s) (wrap_pred (by omega)) (by omega) (type_prog n hn)
end Go.Proofs.YtmgclgojmckfhaaGreatDoor.Typ
/-
  What awake reads. No condition.
-/
namespace Go.Proofs.YtmgclgojmckfhaaGreatDoor.Typ
open Tks Tre
open Lay (Sx StV Fit9 nextS NextOut tkV9 IntArg)
set_option linter.unusedSimpArgs false
set_option linter.unusedVariables false

def awT (k : Int) (t : ByteArray) : Tk := ⟨k, t, 0, 0⟩
/-- The tokens of awake. -/
def awL : List Tk := [awT 2 ⟨#[69, 113]⟩, awT 1 ⟨#[97]⟩, awT 10 ⟨#[61, 62]⟩, awT 15 ⟨#[91]⟩, awT 1 ⟨#[97]⟩, awT 15 ⟨#[93]⟩, awT 10 ⟨#[45, 62]⟩, awT 1 ⟨#[98]⟩]
def awS : Sx := ⟨awL, 0, [], 0⟩
def isCons3 : Fo → Bool
  | .cons _ _ (.cons _ _ (.cons h _ .nil)) => h.kind == 37
  | _ => false
def awOk : Bool := (fullS awS 2).e == 0 && ((fullS awS 2).s.at_ == 8 && ((fullS awS 2).h.kind == 38 && isCons3 (fullS awS 2).k))
def awBad : Bool := (fullS awS 1).e == 2 && (fullS awS 1).s.at_ == 4
theorem aw_ok : awOk = true := by decide +kernel
theorem aw_bad : awBad = true := by decide +kernel
end Go.Proofs.YtmgclgojmckfhaaGreatDoor.Typ
/-
  The laws' own: small, word, same. No condition.
-/
namespace Go.Proofs.YtmgclgojmckfhaaGreatDoor.Typ
open Tks Tre Go.RowKit
open Lay (Sx StV Fit9 nextS NextOut tkV9 IntArg Kp)
set_option linter.unusedSimpArgs false
set_option linter.unusedVariables false

def smallB (s : Sx) : Bool := decide (s.toks.length ≤ 2000) && decide (s.opn.length ≤ 2000)
set_option maxRecDepth 1000000 in
set_option maxHeartbeats 400000 in
theorem word_any (k : Int) (c : ByteArray) (w : World) :
    Calls Tryz.prog 10 #[.int .i64 k, .string c] w fun e w' => e = .returned (tkV9 (awT k c)) ∧ Below w.heap.size w w' := by
  unfold tkV9 awT
  go_enter Tryz.func10, Tryz.ntmps10
  go_wp2_with fail
  exact bodyPost_ret (res_tk (t := ⟨k, c, 0, 0⟩) Tryz.results10 rfl (Lies.new w (tkB ⟨k, c, 0, 0⟩))) rfl ⟨rfl, below_one w _⟩
end Go.Proofs.YtmgclgojmckfhaaGreatDoor.Typ
/-
  awake. No condition.
-/
namespace Go.Proofs.YtmgclgojmckfhaaGreatDoor.Typ
open Tks Tre Go.RowKit
open Lay (Sx StV Fit9 nextS NextOut tkV9 IntArg Kp)
set_option linter.unusedSimpArgs false
set_option linter.unusedVariables false

theorem aw_arg (w : World) (ty : TypeId) : TkArg (w.alloc (.cells #[.int .i64 2, .string ⟨#[69, 113]⟩, .int .i64 0, .int .i64 0, .int .i64 1, .string ⟨#[97]⟩, .int .i64 0, .int .i64 0, .int .i64 10, .string ⟨#[61, 62]⟩, .int .i64 0, .int .i64 0, .int .i64 15, .string ⟨#[91]⟩, .int .i64 0, .int .i64 0, .int .i64 1, .string ⟨#[97]⟩, .int .i64 0, .int .i64 0, .int .i64 15, .string ⟨#[93]⟩, .int .i64 0, .int .i64 0, .int .i64 10, .string ⟨#[45, 62]⟩, .int .i64 0, .int .i64 0, .int .i64 1, .string ⟨#[98]⟩, .int .i64 0, .int .i64 0] ty)) (.slice (some ⟨w.heap.size, 0, none⟩) 8 8) awL := by
  refine .inr ⟨w.heap.size, 0, 8, rfl, ?_, fun i x hx k hk => ?_⟩
  · rw [World.size_alloc]
    omega
  · rw [new_cell, Nat.zero_add]
    have hi := (List.getElem?_eq_some_iff.1 hx).1
    simp only [awL, List.length_cons, List.length_nil] at hi
    rcases (by omega : i = 0 ∨ i = 1 ∨ i = 2 ∨ i = 3 ∨ i = 4 ∨ i = 5 ∨ i = 6 ∨ i = 7) with rfl | rfl | rfl | rfl | rfl | rfl | rfl | rfl <;> cases hx <;> (rcases (by omega : k = 0 ∨ k = 1 ∨ k = 2 ∨ k = 3) with rfl | rfl | rfl | rfl <;> rfl)
theorem aw_fits : Fits big awS := ⟨by decide, by decide⟩
theorem cons3 {k : Fo} (h : isCons3 k = true) : ∃ a b c d g e, k = .cons a b (.cons c d (.cons g e .nil)) ∧ g.kind = 37 := by
  rcases k with _ | ⟨a, b, k⟩
  · cases h
  rcases k with _ | ⟨c, d, k⟩
  · cases h
  rcases k with _ | ⟨g, e, k⟩
  · cases h
  rcases k with _ | ⟨g2, e2, k⟩
  · exact ⟨a, b, c, d, g, e, rfl, eq_of_beq h⟩
  · cases h
/-- What awake looks at, of its first type. -/
theorem aw_two (v : Value) (W : World) (h : TkArg W v awL) : Calls Tryz.prog 6 #[.agg #[v, .int .i64 0, .slice none 0 0, .int .i64 0], .int .i64 2] W fun e w' => ∃ (hd : Hd) (b off kc : Nat) (ta : Option Addr) (tn tc : Nat) (oa : Option Addr) (on oc : Nat) (wt : Int),
    e = .returned (.tuple #[.agg #[.int .i64 38, .int .i64 hd.form, .string hd.text, .int .i64 hd.line, .int .i64 hd.col, .slice (some ⟨b, off, none⟩) 3 kc], .agg #[.slice ta tn tc, .int .i64 8, .slice oa on oc, .int .i64 wt], .int .i64 0]) ∧ w'.cell? ⟨b, off + 12, none⟩ = some (.int .i64 37) ∧ b < w'.heap.size ∧ Below W.heap.size W w' := by
  have q := prog_full 2 (fun _ => True) v (.slice none 0 0) awS W (StOn.of h (show IntArg W (.slice none 0 0) awS.opn from .inl ⟨rfl, none, 0, rfl⟩) (fun _ _ => trivial)) aw_fits (fun _ _ => trivial)
  have hx := aw_ok
  unfold awOk at hx
  generalize fullS awS 2 = x at *
  simp only [Bool.and_eq_true, beq_iff_eq] at hx
  obtain ⟨h0, h1, h2, h3⟩ := hx
  refine q.mono ?_
  rintro e w' ⟨ka, kc, ta, tc, oa, oc, rfl, hk, hs, hb⟩
  obtain ⟨a, b, c, d, g, e, hc, hg⟩ := cons3 h3
  rw [hc] at hk ⊢
  rcases hk with ⟨hn, _⟩ | ⟨bb, off, c2, hv, _, hlt, _, ⟨_, ⟨_, ⟨⟨vk, hcell, _⟩, _⟩⟩⟩⟩
  · cases hn
  rw [hg] at hcell
  injection hv with e1 e2 e3
  subst e1
  refine ⟨x.h, bb, off, kc, ta, x.s.toks.length, tc, oa, x.s.opn.length, oc, x.s.wait, ?_, hcell, hlt, hb⟩
  unfold ndV stV
  rw [h0, h1, h2]
  rfl
theorem aw_one (v : Value) (W : World) (h : TkArg W v awL) : Calls Tryz.prog 6 #[.agg #[v, .int .i64 0, .slice none 0 0, .int .i64 0], .int .i64 1] W fun e w' => ∃ (hd : Hd) (ka : Option Addr) (kn kc : Nat) (ta : Option Addr) (tn tc : Nat) (oa : Option Addr) (on oc : Nat) (wt : Int),
    e = .returned (.tuple #[.agg #[.int .i64 hd.kind, .int .i64 hd.form, .string hd.text, .int .i64 hd.line, .int .i64 hd.col, .slice ka kn kc], .agg #[.slice ta tn tc, .int .i64 4, .slice oa on oc, .int .i64 wt], .int .i64 2]) ∧ Below W.heap.size W w' := by
  have q := prog_full 1 (fun _ => True) v (.slice none 0 0) awS W (StOn.of h (show IntArg W (.slice none 0 0) awS.opn from .inl ⟨rfl, none, 0, rfl⟩) (fun _ _ => trivial)) aw_fits (fun _ _ => trivial)
  have hx := aw_bad
  unfold awBad at hx
  generalize fullS awS 1 = x at *
  simp only [Bool.and_eq_true, beq_iff_eq] at hx
  obtain ⟨h0, h1⟩ := hx
  refine q.mono ?_
  rintro e w' ⟨ka, kc, ta, tc, oa, oc, rfl, hk, hs, hb⟩
  refine ⟨x.h, ka, len x.k, kc, ta, x.s.toks.length, tc, oa, x.s.opn.length, oc, x.s.wait, ?_, hb⟩
  unfold ndV stV
  rw [h0, h1]
set_option maxRecDepth 1000000 in
set_option maxHeartbeats 2000000 in
theorem tawake_any (w : World) :
    Calls Tryz.prog 4 #[] w fun e w' => e = .returned (.bool true) ∧ Below w.heap.size w w' := by
  have CW := Lib.hid (fun k c W => word_any k c W)
  unfold tkV9 awT at CW
  dsimp only at CW
  have C2 := Lib.hid aw_two
  have C1 := Lib.hid aw_one
  have B1 := Lib.hid (Below.refl w.heap.size w)
  go_enter Tryz.func4, Tryz.ntmps4
  go_upto_region 2 with (first
    | (go_at_call 10; refine (CW.out _ _ _).mono ?_; rintro e w1 ⟨rfl, b1⟩; have B2 := Lib.hid (afterL B1.out b1); clear B1; have B1 := B2; clear B2 b1))
  refine gen_world (fun X => Below w.heap.size w X ∧ TkArg X (.slice (some ⟨w1.heap.size, 0, none⟩) 8 8) awL) ⟨afterL B1.out (below_one w1 _), aw_arg w1 _⟩ ?_
  rintro X ⟨bX, tX⟩
  have BX := Lib.hid bX
  have TX := Lib.hid tX
  have HT2 := Lib.hid (C2.out _ X tX)
  generalize w1.heap.size = M at *
  clear bX tX B1 CW
  go_upto_region 3 with (first
    | (go_at_call 6; refine HT2.out.mono ?_; rintro e w2 ⟨hd, kb, koff, kc, ta, tn, tc, oa, on, oc, wt, rfl, hc, hl, b2⟩; have B2 := Lib.hid b2; have KC := Lib.hid hc; have KL := Lib.hid hl; clear b2 hc hl))
  refine gen_world (fun Y => Below w.heap.size w Y ∧ TkArg Y (.slice (some ⟨M, 0, none⟩) 8 8) awL ∧ Lies Y w2.heap.size (ndO ⟨38, hd.form, hd.text, hd.line, hd.col⟩ (.slice (some ⟨kb, koff, none⟩) 3 kc)) ∧ Lies Y (w2.heap.size + 1) (stB (.slice ta tn tc) 8 (.slice oa on oc) wt) ∧ Y.cell? ⟨kb, koff + 12, none⟩ = some (.int .i64 37) ∧ kb < Y.heap.size) ?_ ?_
  · have b3 := afterL B2.out (below_two' w2 (ndO ⟨38, hd.form, hd.text, hd.line, hd.col⟩ (.slice (some ⟨kb, koff, none⟩) 3 kc)) (stB (.slice ta tn tc) 8 (.slice oa on oc) wt))
    have b4 := below_two' w2 (ndO ⟨38, hd.form, hd.text, hd.line, hd.col⟩ (.slice (some ⟨kb, koff, none⟩) 3 kc)) (stB (.slice ta tn tc) 8 (.slice oa on oc) wt)
    exact ⟨afterL BX.out b3, TX.out.below b3 (Nat.le_refl _), (two_lie w2 _ _).1, (two_lie w2 _ _).2, (World.cell?_of_block (b4.block kb KL.out)).trans KC.out, Nat.lt_of_lt_of_le KL.out b4.size⟩
  rintro Y ⟨bY, tY, nY, sY, cY, lY⟩
  have BY := Lib.hid bY
  have HT1 := Lib.hid (C1.out _ Y tY)
  have NY := Lib.hid nY
  have SY := Lib.hid sY
  have CY := Lib.hid cY
  have LY := Lib.hid lY
  have hMM : w2.heap.size + 1 < Y.heap.size := sY.lt
  have HMM := Lib.hid hMM
  generalize w2.heap.size = M2 at *
  clear bY tY nY sY cY lY hMM BX TX HT2 C1 C2 B2 KC KL
  go_upto_region 4 with (first
    | (go_at_call 6; refine HT1.out.mono ?_; rintro e w3 ⟨hd3, ka3, kn3, kc3, ta3, tn3, tc3, oa3, on3, oc3, wt3, rfl, b3⟩; have B3 := Lib.hid b3; clear b3))
  refine gen_world (fun Z => Below w.heap.size w Z ∧ Lies Z M2 (ndO ⟨38, hd.form, hd.text, hd.line, hd.col⟩ (.slice (some ⟨kb, koff, none⟩) 3 kc)) ∧ Lies Z (M2 + 1) (stB (.slice ta tn tc) 8 (.slice oa on oc) wt) ∧ Z.cell? ⟨kb, koff + 12, none⟩ = some (.int .i64 37) ∧ Lies Z (w3.heap.size + 1) (stB (.slice ta3 tn3 tc3) 4 (.slice oa3 on3 oc3) wt3)) ?_ ?_
  · have b4 := afterL B3.out (below_two' w3 (ndO hd3 (.slice ka3 kn3 kc3)) (stB (.slice ta3 tn3 tc3) 4 (.slice oa3 on3 oc3) wt3))
    exact ⟨afterL BY.out b4, NY.out.below b4 NY.out.lt, SY.out.below b4 SY.out.lt, (World.cell?_of_block (b4.block kb LY.out)).trans CY.out, (two_lie w3 _ _).2⟩
  rintro Z ⟨bZ, nZ, sZ, cZ, uZ⟩
  obtain ⟨d0, d1, d2, d3, d4, d5⟩ := nZ.node
  dsimp only at d0
  obtain ⟨q0, q1, q2, q3⟩ := four_st sZ
  obtain ⟨u0, u1, u2, u3⟩ := four_st uZ
  have BZ := Lib.hid bZ
  clear bZ nZ sZ uZ BY NY SY CY LY B3 HT1
  generalize w3.heap.size = M3 at *
  have e1 : ((8 : Int) == 8) = true := rfl
  go_wp2_with fail
  go_ret
  exact ⟨rfl, BZ.out⟩
end Go.Proofs.YtmgclgojmckfhaaGreatDoor.Typ
