/-
  The document's own Next, a round of its loop: a Begin, with Wait 0 or 1. Conditions: at most 2^40 tokens and blocks.
-/
import Derived.Test.YtmgclgojmckfhaaZNxb
namespace Go.Proofs.Ytmgclgojmckfhaa.Lay
open Tks Mrk Go.RowKit
set_option linter.unusedSimpArgs false
set_option linter.unusedVariables false

set_option maxRecDepth 1000000 in
set_option maxHeartbeats 40000000 in
theorem round_d (at1 ao1 : Option Addr) (ct1 co1 : Nat) (toks : List Tk) (i : Nat) (o : List Int) (wt : Int) (w wr : World) (B1 B2 k : Nat) (wk : Int) (t : Tk)
    (HTA : Hid (TkArg w (.slice at1 toks.length ct1) toks)) (HOA : Hid (IntArg w (.slice ao1 o.length co1) o)) (HF1 : Hid (toks.length ≤ 1099511627776)) (HF2 : Hid (o.length ≤ 1099511627776))
    (C2 : Hid (∀ (k : Nat) (wk : Int) W, Below w.heap.size w W → Calls Try.prog 69 #[.agg #[(.slice at1 toks.length ct1), .int .i64 (k : Int), (.slice ao1 o.length co1), .int .i64 wk]] W fun e w' => e = .returned (.int .i64 (topL o)) ∧ Below W.heap.size W w'))
    (C3 : Hid (o ≠ [] → ∀ (k : Nat) (wk : Int) W, Below w.heap.size w W → Calls Try.prog 72 #[.agg #[(.slice at1 toks.length ct1), .int .i64 (k : Int), (.slice ao1 o.length co1), .int .i64 wk]] W fun e w' => ∃ r, e = .returned (.agg #[(.slice at1 toks.length ct1), .int .i64 (k : Int), r, .int .i64 wk]) ∧ IntOwn w' W.heap.size r o.dropLast ∧ Below W.heap.size W w'))
    (C4 : Hid (∀ (z : Int) (k : Nat) (wk : Int) W, Below w.heap.size w W → Calls Try.prog 70 #[.agg #[(.slice at1 toks.length ct1), .int .i64 (k : Int), (.slice ao1 o.length co1), .int .i64 wk], .int .i64 z] W fun e w' => ∃ r, e = .returned (.agg #[(.slice at1 toks.length ct1), .int .i64 (k : Int), r, .int .i64 wk]) ∧ IntOwn w' W.heap.size r (o ++ [z]) ∧ Below W.heap.size W w'))
    (n1 : ¬ B1 = w.heap.size) (n2 : ¬ B2 = w.heap.size) (n3 : ¬ B1 = B2) (m1 : ¬ w.heap.size = B1) (m2 : ¬ w.heap.size = B2) (m3 : ¬ B2 = B1) (HB : Hid (w.heap.size + 1 = B1 ∧ w.heap.size + 1 + 1 = B2))
    (HK : Hid (Ok toks k o wk)) (HH : Hid (Hold w B1 B2 wr (.slice at1 toks.length ct1) (.slice ao1 o.length co1) (k : Int) wk)) (HNX : Hid (nextL toks k o wk = nextL toks i o wt)) (hp : k < toks.length) (ht : toks[k]? = some t) (k16h : Hid (t.kind = 16)) (w01 : wk = 0 ∨ wk = 1)
    (P K : Act → World → Prop) (u4 u5 u6 u12 u13 u14 u15 u16 u17 u18 u19 u20 u21 u22 u23 u24 u25 u26 u27 u28 u29 u30 u31 u32 u33 u34 u35 u36 u37 u38 u39 u40 u41 u42 u43 u44 u45 u46 u47 u48 u49 u50 u51 u52 u53 u54 u55 u56 u57 u58 u59 u60 u61 u62 u63 u64 u65 u66 u67 u68 u69 u70 u71 u72 u73 u74 u75 u76 u77 u78 u79 u80 u81 u82 u83 u84 u85 u86 u87 u88 u89 u90 u91 u92 u93 u94 u95 u96 u97 u98 u99 u100 u101 u102 u103 u104 u105 u106 u107 u108 u109 u110 u111 u112 u113 u114 u115 u116 u117 u118 u119 u120 u121 u122 u123 u124 u125 u126 u127 u128 u129 u130 u131 u132 u133 u134 u135 u136 u137 u138 u139 u140 : Value) :
    Code.wp Try.prog nextBody (Exit.then P (Exit.inBlock 0 (Exit.then K (bodyPost Try.prog Try.f59 (fun e w' => ∃ v, e = .returned (.tuple #[tkV9 (nextL toks i o wt).tok, v, .int .i64 (nextL toks i o wt).err]) ∧ StF w (.slice at1 toks.length ct1) (.slice ao1 o.length co1) w' v ⟨toks, (nextL toks i o wt).at_, (nextL toks i o wt).opn, (nextL toks i o wt).wait⟩ ∧ Below w.heap.size w w'))))) ⟨#[.agg #[(.slice at1 toks.length ct1), .int .i64 (i : Int), (.slice ao1 o.length co1), .int .i64 wt], .pointer (some ⟨w.heap.size, 0, none⟩), .pointer (some ⟨B1, 0, none⟩), .pointer (some ⟨B2, 0, none⟩), u4, u5, u6, .agg #[(.slice at1 toks.length ct1), .int .i64 (i : Int), (.slice ao1 o.length co1), .int .i64 wt], .bool true, .bool false, undef, undef, u12, u13, u14, u15, u16, u17, u18, u19, u20, u21, u22, u23, u24, u25, u26, u27, u28, u29, u30, u31, u32, u33, u34, u35, u36, u37, u38, u39, u40, u41, u42, u43, u44, u45, u46, u47, u48, u49, u50, u51, u52, u53, u54, u55, u56, u57, u58, u59, u60, u61, u62, u63, u64, u65, u66, u67, u68, u69, u70, u71, u72, u73, u74, u75, u76, u77, u78, u79, u80, u81, u82, u83, u84, u85, u86, u87, u88, u89, u90, u91, u92, u93, u94, u95, u96, u97, u98, u99, u100, u101, u102, u103, u104, u105, u106, u107, u108, u109, u110, u111, u112, u113, u114, u115, u116, u117, u118, u119, u120, u121, u122, u123, u124, u125, u126, u127, u128, u129, u130, u131, u132, u133, u134, u135, u136, u137, u138, u139, u140, undef, undef, undef, undef, undef, undef, undef, undef, undef, undef, undef, undef, undef, undef], []⟩ wr := by
  conv => arg 2; whnf
  obtain ⟨tb, td, tc, e3, h1, h2⟩ := (HTA.out.below HH.out.bel (Nat.le_refl _)).cells (by omega)
  simp only [Value.slice.injEq] at e3
  obtain ⟨rfl, -, rfl⟩ := e3
  have HI : TkIn wr tb td toks := ⟨h1, h2⟩
  obtain ⟨a0, a1, a2, a3⟩ := HI.four k t ht
  have HN := Lib.hid (next_at (o := o) (wt := wk) ht)
  have HT := Lib.hid ht
  have i0 : (0 : Int) ≤ (k : Int) := by omega
  have i1 : (k : Int) < (toks.length : Int) := by omega
  have hw4 : IntKind.i64.wrap ((k : Int) + 1) = (k : Int) + 1 := by rw [IntWalk.i64_left]; exact idx_at k toks.length hp (Nat.le_trans HF1.out (by decide))
  have hw5 : wrap64 ((k : Int) + 1) = (k : Int) + 1 := idx_at k toks.length hp (Nat.le_trans HF1.out (by decide))
  have HP := Lib.hid hp
  obtain ⟨c0, c1, c2, c3, f0, f1, f2, f3⟩ := HH.out.st.four
  clear HI h1 h2 ht hp
  go_upto_region 5 with fail
  refine gen_world (fun X => Hold w B1 B2 X (.slice (some ⟨tb, td, none⟩) toks.length ct1) (.slice ao1 o.length co1) (k : Int) wk ∧ Lies X wr.heap.size (tkO t) ∧ wr.heap.size < X.heap.size) ⟨HH.out.below ((Below.refl _ _).alloc (Nat.le_refl _) _), Lies.new wr (tkO t), by rw [World.size_alloc]; omega⟩ ?_
  rintro X ⟨hX, tX, sX⟩
  have s0 := HH.out.st.lt
  have s1 := HH.out.r1.lt
  have s2 := HH.out.r2.lt
  generalize wr.heap.size = Bt at *
  have b0 : ¬ Bt = w.heap.size := by omega
  have b1 : ¬ Bt = B1 := by omega
  have b2 : ¬ Bt = B2 := by omega
  have b3 : ¬ w.heap.size = Bt := by omega
  have b4 : ¬ B1 = Bt := by omega
  have b5 : ¬ B2 = Bt := by omega
  have HX := Lib.hid hX
  have TX := Lib.hid tX
  clear c0 c1 c2 c3 f0 f1 f2 f3 a0 a1 a2 a3 hX tX s0 s1 s2 sX
  obtain ⟨c0, c1, c2, c3, f0, f1, f2, f3⟩ := HX.out.st.four
  obtain ⟨x0, x1, x2, x3, y0, y1, y2, y3⟩ := tokLies TX.out
  have k16 := k16h.out
  rcases w01 with rfl | rfl
  · by_cases hc : topL o < t.col
    · skip
      have HR : Hid (nextR (t :: toks.drop (k + 1)) k o 0 = ⟨atT 18 t, k + 1, o ++ [t.col], 0, 0⟩) := by
        unfold Hid nextR
        rw [if_pos ⟨k16, rfl⟩, if_pos hc]
      have t1 : decide (topL o < t.col) = true := decide_eq_true hc
      have z1 : (t.kind == 16) = true := beq_iff_eq.2 k16
      clear hc k16
      go_wp2_with fail
      go_region_held3 (fun w' => w'.cell? ⟨w.heap.size, 0, none⟩ = some (.slice (some ⟨tb, td, none⟩) toks.length ct1) ∧ w'.cell? ⟨w.heap.size, 1, none⟩ = some (.int .i64 (k : Int)) ∧ w'.cell? ⟨w.heap.size, 2, none⟩ = some (.slice ao1 o.length co1) ∧ w'.cell? ⟨w.heap.size, 3, none⟩ = some (.int .i64 0) ∧ w'.cell? ⟨Bt, 0, none⟩ = some (.int .i64 t.kind) ∧ w'.cell? ⟨Bt, 1, none⟩ = some (.string t.text) ∧ w'.cell? ⟨Bt, 2, none⟩ = some (.int .i64 t.line) ∧ w'.cell? ⟨Bt, 3, none⟩ = some (.int .i64 t.col)) (go_keep) (first
        | (go_at_call 69; refine (C2.out _ _ _ (bdrew HX.out.bel)).mono ?_; rintro e w2 ⟨rfl, u9⟩; clear c0 c1 c2 c3 f0 f1 f2 f3 x0 x1 x2 x3 y0 y1 y2 y3; have H2 := Lib.hid (HX.out.below (undrew1 u9)); have T2 := Lib.hid (TX.out.below (undrew1 u9) TX.out.lt); clear u9; obtain ⟨c0, c1, c2, c3, f0, f1, f2, f3⟩ := H2.out.st.four; obtain ⟨x0, x1, x2, x3, y0, y1, y2, y3⟩ := tokLies T2.out))
      go_wp2_with (first
        | (go_at_call 70; refine (C4.out t.col _ _ _ H2.out.bel).mono ?_; rintro e w3 ⟨r9, rfl, o9, u9⟩; obtain ⟨p9, q9, s9, rfl⟩ := own_slice o9; clear c0 c1 c2 c3 f0 f1 f2 f3 x0 x1 x2 x3 y0 y1 y2 y3; have H3 := Lib.hid (H2.out.below u9); have T3 := Lib.hid (T2.out.below u9 T2.out.lt); have O3 := Lib.hid o9; have L1 := Lib.hid H2.out.r1.lt; have L2 := Lib.hid H2.out.r2.lt; have L0 := Lib.hid H2.out.st.lt; clear u9 o9; obtain ⟨c0, c1, c2, c3, f0, f1, f2, f3⟩ := H3.out.st.four; obtain ⟨x0, x1, x2, x3, y0, y1, y2, y3⟩ := tokLies T3.out))
      refine gen_world (fun Y => Hold w B1 B2 Y (.slice (some ⟨tb, td, none⟩) toks.length ct1) (.slice p9 q9 s9) ((k : Int) + 1) 0 ∧ Lies Y Bt (tkO t) ∧ IntOwn Y w2.heap.size (.slice p9 q9 s9) (o ++ [t.col])) ⟨⟨(Lies.set (Lies.set (Lies.set (Lies.set (Lies.set H3.out.st 0 _) 1 _) 2 _) 3 _) 1 _), (Lies.other (Lies.other (Lies.other (Lies.other (Lies.other H3.out.r1 n1 0 _) n1 1 _) n1 2 _) n1 3 _) n1 1 _), (Lies.other (Lies.other (Lies.other (Lies.other (Lies.other H3.out.r2 n2 0 _) n2 1 _) n2 2 _) n2 3 _) n2 1 _), (Below.setCell (Below.setCell (Below.setCell (Below.setCell (Below.setCell H3.out.bel (p := ⟨w.heap.size, 0, none⟩) (Nat.le_refl _) _) (p := ⟨w.heap.size, 1, none⟩) (Nat.le_refl _) _) (p := ⟨w.heap.size, 2, none⟩) (Nat.le_refl _) _) (p := ⟨w.heap.size, 3, none⟩) (Nat.le_refl _) _) (p := ⟨w.heap.size, 1, none⟩) (Nat.le_refl _) _)⟩, (Lies.other (Lies.other (Lies.other (Lies.other (Lies.other T3.out b0 0 _) b0 1 _) b0 2 _) b0 3 _) b0 1 _), (ownsRow_setCell_below (ownsRow_setCell_below (ownsRow_setCell_below (ownsRow_setCell_below (ownsRow_setCell_below O3.out L0.out _) L0.out _) L0.out _) L0.out _) L0.out _)⟩ ?_
      rintro Y ⟨hY, tY, oY⟩
      clear c0 c1 c2 c3 f0 f1 f2 f3 x0 x1 x2 x3 y0 y1 y2 y3
      have HY := Lib.hid hY
      have TY := Lib.hid tY
      have OY := Lib.hid oY
      clear hY tY oY
      obtain ⟨c0, c1, c2, c3, f0, f1, f2, f3⟩ := HY.out.st.four; obtain ⟨x0, x1, x2, x3, y0, y1, y2, y3⟩ := tokLies TY.out
      obtain ⟨d0, d1, d2, d3, g0, g1, g2, g3⟩ := tokLies HY.out.r1; obtain ⟨e0, e1, e2, e3, h0, h1, h2, h3⟩ := HY.out.r2.four; dsimp only [zeroT] at d0 d1 d2 d3
      go_region_held3 (fun w' => w'.cell? ⟨w.heap.size, 0, none⟩ = some (.slice (some ⟨tb, td, none⟩) toks.length ct1) ∧ w'.cell? ⟨w.heap.size, 1, none⟩ = some (.int .i64 ((k : Int) + 1)) ∧ w'.cell? ⟨w.heap.size, 2, none⟩ = some (.slice p9 q9 s9) ∧ w'.cell? ⟨w.heap.size, 3, none⟩ = some (.int .i64 0) ∧ w'.cell? ⟨Bt, 0, none⟩ = some (.int .i64 t.kind) ∧ w'.cell? ⟨Bt, 1, none⟩ = some (.string t.text) ∧ w'.cell? ⟨Bt, 2, none⟩ = some (.int .i64 t.line) ∧ w'.cell? ⟨Bt, 3, none⟩ = some (.int .i64 t.col)) (go_keep) (first
        | (go_at_call 71; refine (refat_any9 t 18 _).mono ?_; rintro e w5 ⟨rfl, u9⟩; clear c0 c1 c2 c3 f0 f1 f2 f3 x0 x1 x2 x3 y0 y1 y2 y3; have H5 := Lib.hid (HY.out.below (undrew1 u9)); have T5 := Lib.hid (TY.out.below (undrew1 u9) TY.out.lt); have O5 := Lib.hid (IntOwn.below OY.out (undrew1 u9) (Nat.le_refl _)); clear u9; obtain ⟨c0, c1, c2, c3, f0, f1, f2, f3⟩ := H5.out.st.four; obtain ⟨x0, x1, x2, x3, y0, y1, y2, y3⟩ := tokLies T5.out; obtain ⟨d0, d1, d2, d3, g0, g1, g2, g3⟩ := tokLies H5.out.r1; obtain ⟨e0, e1, e2, e3, h0, h1, h2, h3⟩ := H5.out.r2.four; dsimp only [zeroT] at d0 d1 d2 d3))
      go_wp2_with fail
      refine bodyPost_ret (by simp [results, Try.results59, go_sem, d0, d1, d2, d3, e0, e1, e2, e3, n3, m3]; try rfl) rfl ?_
      rw [← HNX.out, HN.out, HR.out]
      obtain ⟨q1, q2, q3, q4⟩ := fin_own (v0 := (.slice ao1 o.length co1)) (B1 := B1) (B2 := B2) H5.out.bel (by have := HB.out.1; omega) (by have := HB.out.2; omega) L1.out L2.out HTA.out O5.out (.int .i64 18) (.string ⟨#[]⟩) (.int .i64 t.line) (.int .i64 t.col) (.slice (some ⟨tb, td, none⟩) toks.length ct1) (.int .i64 ((k : Int) + 1)) (.slice p9 q9 s9) (.int .i64 0)
      exact ⟨_, rfl, ⟨_, rfl, q1, q2, q4⟩, q3⟩
    · skip
      have HR : Hid (nextR (t :: toks.drop (k + 1)) k o 0 = ⟨atT 18 t, k, o, 1, 0⟩) := by
        unfold Hid nextR
        rw [if_pos ⟨k16, rfl⟩, if_neg hc]
      have t1 : decide (topL o < t.col) = false := decide_eq_false hc
      have z1 : (t.kind == 16) = true := beq_iff_eq.2 k16
      clear hc k16
      go_wp2_with fail
      go_region_held3 (fun w' => w'.cell? ⟨w.heap.size, 0, none⟩ = some (.slice (some ⟨tb, td, none⟩) toks.length ct1) ∧ w'.cell? ⟨w.heap.size, 1, none⟩ = some (.int .i64 (k : Int)) ∧ w'.cell? ⟨w.heap.size, 2, none⟩ = some (.slice ao1 o.length co1) ∧ w'.cell? ⟨w.heap.size, 3, none⟩ = some (.int .i64 0) ∧ w'.cell? ⟨Bt, 0, none⟩ = some (.int .i64 t.kind) ∧ w'.cell? ⟨Bt, 1, none⟩ = some (.string t.text) ∧ w'.cell? ⟨Bt, 2, none⟩ = some (.int .i64 t.line) ∧ w'.cell? ⟨Bt, 3, none⟩ = some (.int .i64 t.col)) (go_keep) (first
        | (go_at_call 69; refine (C2.out _ _ _ (bdrew HX.out.bel)).mono ?_; rintro e w2 ⟨rfl, u9⟩; clear c0 c1 c2 c3 f0 f1 f2 f3 x0 x1 x2 x3 y0 y1 y2 y3; have H2 := Lib.hid (HX.out.below (undrew1 u9)); have T2 := Lib.hid (TX.out.below (undrew1 u9) TX.out.lt); clear u9; obtain ⟨c0, c1, c2, c3, f0, f1, f2, f3⟩ := H2.out.st.four; obtain ⟨x0, x1, x2, x3, y0, y1, y2, y3⟩ := tokLies T2.out))
      go_wp2_with fail
      refine gen_world (fun Y => Hold w B1 B2 Y (.slice (some ⟨tb, td, none⟩) toks.length ct1) (.slice ao1 o.length co1) (k : Int) 1 ∧ Lies Y Bt (tkO t)) ⟨⟨(Lies.set H2.out.st 3 _), (Lies.other H2.out.r1 n1 3 _), (Lies.other H2.out.r2 n2 3 _), (Below.setCell H2.out.bel (p := ⟨w.heap.size, 3, none⟩) (Nat.le_refl _) _)⟩, (Lies.other T2.out b0 3 _)⟩ ?_
      rintro Y ⟨hY, tY⟩
      clear c0 c1 c2 c3 f0 f1 f2 f3 x0 x1 x2 x3 y0 y1 y2 y3
      have HY := Lib.hid hY
      have TY := Lib.hid tY
      clear hY tY
      obtain ⟨c0, c1, c2, c3, f0, f1, f2, f3⟩ := HY.out.st.four; obtain ⟨x0, x1, x2, x3, y0, y1, y2, y3⟩ := tokLies TY.out
      obtain ⟨d0, d1, d2, d3, g0, g1, g2, g3⟩ := tokLies HY.out.r1; obtain ⟨e0, e1, e2, e3, h0, h1, h2, h3⟩ := HY.out.r2.four; dsimp only [zeroT] at d0 d1 d2 d3
      go_region_held3 (fun w' => w'.cell? ⟨w.heap.size, 0, none⟩ = some (.slice (some ⟨tb, td, none⟩) toks.length ct1) ∧ w'.cell? ⟨w.heap.size, 1, none⟩ = some (.int .i64 (k : Int)) ∧ w'.cell? ⟨w.heap.size, 2, none⟩ = some (.slice ao1 o.length co1) ∧ w'.cell? ⟨w.heap.size, 3, none⟩ = some (.int .i64 1) ∧ w'.cell? ⟨Bt, 0, none⟩ = some (.int .i64 t.kind) ∧ w'.cell? ⟨Bt, 1, none⟩ = some (.string t.text) ∧ w'.cell? ⟨Bt, 2, none⟩ = some (.int .i64 t.line) ∧ w'.cell? ⟨Bt, 3, none⟩ = some (.int .i64 t.col)) (go_keep) (first
        | (go_at_call 71; refine (refat_any9 t 18 _).mono ?_; rintro e w5 ⟨rfl, u9⟩; clear c0 c1 c2 c3 f0 f1 f2 f3 x0 x1 x2 x3 y0 y1 y2 y3; have H5 := Lib.hid (HY.out.below (undrew1 u9)); have T5 := Lib.hid (TY.out.below (undrew1 u9) TY.out.lt); clear u9; obtain ⟨c0, c1, c2, c3, f0, f1, f2, f3⟩ := H5.out.st.four; obtain ⟨x0, x1, x2, x3, y0, y1, y2, y3⟩ := tokLies T5.out; obtain ⟨d0, d1, d2, d3, g0, g1, g2, g3⟩ := tokLies H5.out.r1; obtain ⟨e0, e1, e2, e3, h0, h1, h2, h3⟩ := H5.out.r2.four; dsimp only [zeroT] at d0 d1 d2 d3))
      go_wp2_with fail
      refine bodyPost_ret (by simp [results, Try.results59, go_sem, d0, d1, d2, d3, e0, e1, e2, e3, n3, m3]; try rfl) rfl ?_
      rw [← HNX.out, HN.out, HR.out]
      obtain ⟨q1, q2, q3, q4⟩ := fin_same0 (B1 := B1) (B2 := B2) H5.out.bel (by have := HB.out.1; omega) (by have := HB.out.2; omega) HTA.out HOA.out (.int .i64 18) (.string ⟨#[]⟩) (.int .i64 t.line) (.int .i64 t.col) (.slice (some ⟨tb, td, none⟩) toks.length ct1) (.int .i64 (k : Int)) (.slice ao1 o.length co1) (.int .i64 1)
      exact ⟨_, rfl, ⟨_, rfl, q1, q2, q4⟩, q3⟩
  · skip
    have HR : Hid (nextR (t :: toks.drop (k + 1)) k o 1 = ⟨atT 20 t, k, o, 2, 0⟩) := by
      unfold Hid nextR
      rw [if_neg (fun q => absurd q.2 (by decide)), if_pos ⟨k16, rfl⟩]
    have z1 : (t.kind == 16) = true := beq_iff_eq.2 k16
    clear k16
    go_wp2_with fail
    refine gen_world (fun Y => Hold w B1 B2 Y (.slice (some ⟨tb, td, none⟩) toks.length ct1) (.slice ao1 o.length co1) (k : Int) 2 ∧ Lies Y Bt (tkO t)) ⟨⟨(Lies.set HX.out.st 3 _), (Lies.other HX.out.r1 n1 3 _), (Lies.other HX.out.r2 n2 3 _), (Below.setCell HX.out.bel (p := ⟨w.heap.size, 3, none⟩) (Nat.le_refl _) _)⟩, (Lies.other TX.out b0 3 _)⟩ ?_
    rintro Y ⟨hY, tY⟩
    clear c0 c1 c2 c3 f0 f1 f2 f3 x0 x1 x2 x3 y0 y1 y2 y3
    have HY := Lib.hid hY
    have TY := Lib.hid tY
    clear hY tY
    obtain ⟨c0, c1, c2, c3, f0, f1, f2, f3⟩ := HY.out.st.four; obtain ⟨x0, x1, x2, x3, y0, y1, y2, y3⟩ := tokLies TY.out
    obtain ⟨d0, d1, d2, d3, g0, g1, g2, g3⟩ := tokLies HY.out.r1; obtain ⟨e0, e1, e2, e3, h0, h1, h2, h3⟩ := HY.out.r2.four; dsimp only [zeroT] at d0 d1 d2 d3
    go_region_held3 (fun w' => w'.cell? ⟨w.heap.size, 0, none⟩ = some (.slice (some ⟨tb, td, none⟩) toks.length ct1) ∧ w'.cell? ⟨w.heap.size, 1, none⟩ = some (.int .i64 (k : Int)) ∧ w'.cell? ⟨w.heap.size, 2, none⟩ = some (.slice ao1 o.length co1) ∧ w'.cell? ⟨w.heap.size, 3, none⟩ = some (.int .i64 2) ∧ w'.cell? ⟨Bt, 0, none⟩ = some (.int .i64 t.kind) ∧ w'.cell? ⟨Bt, 1, none⟩ = some (.string t.text) ∧ w'.cell? ⟨Bt, 2, none⟩ = some (.int .i64 t.line) ∧ w'.cell? ⟨Bt, 3, none⟩ = some (.int .i64 t.col)) (go_keep) (first
      | (go_at_call 71; refine (refat_any9 t 20 _).mono ?_; rintro e w5 ⟨rfl, u9⟩; clear c0 c1 c2 c3 f0 f1 f2 f3 x0 x1 x2 x3 y0 y1 y2 y3; have H5 := Lib.hid (HY.out.below (undrew1 u9)); have T5 := Lib.hid (TY.out.below (undrew1 u9) TY.out.lt); clear u9; obtain ⟨c0, c1, c2, c3, f0, f1, f2, f3⟩ := H5.out.st.four; obtain ⟨x0, x1, x2, x3, y0, y1, y2, y3⟩ := tokLies T5.out; obtain ⟨d0, d1, d2, d3, g0, g1, g2, g3⟩ := tokLies H5.out.r1; obtain ⟨e0, e1, e2, e3, h0, h1, h2, h3⟩ := H5.out.r2.four; dsimp only [zeroT] at d0 d1 d2 d3))
    go_wp2_with fail
    refine bodyPost_ret (by simp [results, Try.results59, go_sem, d0, d1, d2, d3, e0, e1, e2, e3, n3, m3]; try rfl) rfl ?_
    rw [← HNX.out, HN.out, HR.out]
    obtain ⟨q1, q2, q3, q4⟩ := fin_same0 (B1 := B1) (B2 := B2) H5.out.bel (by have := HB.out.1; omega) (by have := HB.out.2; omega) HTA.out HOA.out (.int .i64 20) (.string ⟨#[]⟩) (.int .i64 t.line) (.int .i64 t.col) (.slice (some ⟨tb, td, none⟩) toks.length ct1) (.int .i64 (k : Int)) (.slice ao1 o.length co1) (.int .i64 2)
    exact ⟨_, rfl, ⟨_, rfl, q1, q2, q4⟩, q3⟩
end Go.Proofs.Ytmgclgojmckfhaa.Lay
