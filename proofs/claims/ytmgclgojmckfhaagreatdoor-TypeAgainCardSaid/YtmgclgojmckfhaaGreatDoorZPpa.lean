/-
  The program's parse. Conditions: what the program's Next does, and sizes that are borne.
-/
import Derived.Test.YtmgclgojmckfhaaGreatDoorZPfl
namespace Go.Proofs.YtmgclgojmckfhaaGreatDoor.Typ
open Tks Tre Go.RowKit
open Lay (Sx StV Fit9 nextS NextOut tkV9 IntArg Kp)
set_option linter.unusedSimpArgs false
set_option linter.unusedVariables false

/-- What Atom, Row, Type, Full answer. -/
def TOut (x : Rd) (P : Nat → Prop) (W : World) (e : Ending) (w' : World) : Prop :=
  ∃ ka kc ta tc oa oc, e = .returned (.tuple #[ndV x.h (.slice ka (len x.k) kc), stV (.slice ta x.s.toks.length tc) x.s.at_ (.slice oa x.s.opn.length oc) x.s.wait, .int .i64 x.e]) ∧ KOn w' P (.slice ka (len x.k) kc) x.k ∧ StOn w' P (.slice ta x.s.toks.length tc) (.slice oa x.s.opn.length oc) x.s ∧ Below W.heap.size W w'
theorem four_new (w : World) (o1 o2 o3 o4 : Obj) : Lies ((((w.alloc o1).alloc o2).alloc o3).alloc o4) w.heap.size o1 ∧ Lies ((((w.alloc o1).alloc o2).alloc o3).alloc o4) (w.heap.size + 1) o2 ∧ Lies ((((w.alloc o1).alloc o2).alloc o3).alloc o4) (w.heap.size + 1 + 1) o3 ∧ Lies ((((w.alloc o1).alloc o2).alloc o3).alloc o4) (w.heap.size + 1 + 1 + 1) o4 ∧ Below w.heap.size w ((((w.alloc o1).alloc o2).alloc o3).alloc o4) ∧ ((((w.alloc o1).alloc o2).alloc o3).alloc o4).heap.size = w.heap.size + 1 + 1 + 1 + 1 := by
  obtain ⟨h1, h2, h3, hb, hs⟩ := Tre.three_lie w o1 o2 o3
  have h4 := Lies.new (((w.alloc o1).alloc o2).alloc o3) o4
  rw [hs] at h4
  refine ⟨h1.alloc _, h2.alloc _, h3.alloc _, h4, afterL hb (below_one _ o4), by rw [World.size_alloc, hs]⟩
theorem res_parse {fn : Func} {c1 c2 c3 : Tmp} (hf : fn.results = #[.cell c1 30, .cell c2 33, .cell c3 25]) {tmps : Array Value} {w : World} {B C D : Nat} {h : Hd} {ka ta oa : Option Addr} {kn kc tn tc on oc : Nat} {i wt x : Int} (h1 : tmps.getD c1 undef = .pointer (some ⟨B, 0, none⟩)) (h2 : tmps.getD c2 undef = .pointer (some ⟨C, 0, none⟩)) (h3 : tmps.getD c3 undef = .pointer (some ⟨D, 0, none⟩)) (hl : Lies w B (ndO h (.slice ka kn kc))) (hm : Lies w C (stB (.slice ta tn tc) i (.slice oa on oc) wt)) (hn : One w D (.int .i64 x) 25) :
    (results fn tmps).run Tryz.prog w = .ok (.tuple #[ndV h (.slice ka kn kc), stV (.slice ta tn tc) i (.slice oa on oc) wt, .int .i64 x]) w := by
  obtain ⟨⟨k0, k1, k2, k3, k4, k5⟩, -⟩ := hl.nodef
  obtain ⟨m0, m1, m2, m3⟩ := four_st hm
  have n0 := One.c0 hn
  have e1 : tmps[c1]?.getD undef = .pointer (some ⟨B, 0, none⟩) := by
    rw [← Array.getD_eq_getD_getElem?]
    exact h1
  have e2 : tmps[c2]?.getD undef = .pointer (some ⟨C, 0, none⟩) := by
    rw [← Array.getD_eq_getD_getElem?]
    exact h2
  have e3 : tmps[c3]?.getD undef = .pointer (some ⟨D, 0, none⟩) := by
    rw [← Array.getD_eq_getD_getElem?]
    exact h3
  unfold ndV stV
  simp [results, hf, e1, e2, e3, go_sem, k0, k1, k2, k3, k4, k5, m0, m1, m2, m3, n0]
theorem gen_postD {P : Program} {fn : Func} {R : Ending → World → Prop} {e : Exit} {a : Act} {w : World} (M : World → Prop) (h : M w) (k : ∀ w, M w → bodyPostD P fn R e a w) : bodyPostD P fn R e a w := k w h
theorem store11 {w Z : World} {P : Nat → Prop} {l : List Nat} {R A E n : Nat} {s : Sx} {tv ov : Value} {ka : Option Addr} {kn kc : Nat} {k : Fo} {h : Hd} {u0 u1 x2 : Value} {i0 i1 : Int} (hl : Lies Z R (ndO h (.slice ka kn kc))) (ha : Lies Z A (stB u0 i0 u1 i1)) (he : One Z E x2 25) (hk : KOn Z (Pm P l) (.slice ka kn kc) k) (hs : StOn Z (Pm P l) tv ov s) (hb : Below n w Z) (hm : R ∈ l) (hm2 : A ∈ l) (hm3 : E ∈ l) (h1 : R ≠ A) (h2 : R ≠ E) (h3 : A ≠ E) (h4 : n ≤ R) (h5 : n ≤ A) (h6 : n ≤ E) :
    (fun W => Lies W R (ndO h (.slice ka kn kc)) ∧ Lies W A (stB tv s.at_ ov s.wait) ∧ One W E (.int .i64 0) 25 ∧ KOn W (Pm P l) (.slice ka kn kc) k ∧ StOn W (Pm P l) tv ov s ∧ Below n w W) ((Lay.set4 (Tre.set6 Z R (.int .i64 h.kind) (.int .i64 h.form) (.string h.text) (.int .i64 h.line) (.int .i64 h.col) (.slice ka kn kc)) A tv (.int .i64 s.at_) ov (.int .i64 s.wait)).setCell ⟨E, 0, none⟩ (.int .i64 0)).drew := by
  have b6 := set6_below hb h4 (.int .i64 h.kind) (.int .i64 h.form) (.string h.text) (.int .i64 h.line) (.int .i64 h.col) (.slice ka kn kc)
  have q : ∀ d, d ≠ R → (Tre.set6 Z R (.int .i64 h.kind) (.int .i64 h.form) (.string h.text) (.int .i64 h.line) (.int .i64 h.col) (.slice ka kn kc)).heap[d]? = Z.heap[d]? := fun d hd => set6_keep Z hd _ _ _ _ _ _
  have z6 : (Tre.set6 Z R (.int .i64 h.kind) (.int .i64 h.form) (.string h.text) (.int .i64 h.line) (.int .i64 h.col) (.slice ka kn kc)).heap.size = Z.heap.size := set6_size Z R _ _ _ _ _ _
  have l6 := Lies.all6 hl h (.slice ka kn kc)
  generalize Tre.set6 Z R (.int .i64 h.kind) (.int .i64 h.form) (.string h.text) (.int .i64 h.line) (.int .i64 h.col) (.slice ka kn kc) = X at *
  have a6 : Lies X A (stB u0 i0 u1 i1) := (q _ h1.symm).trans ha
  have e6 : One X E x2 25 := (q _ h2.symm).trans he
  have l7 := set4_other l6 h1 tv (.int .i64 s.at_) ov (.int .i64 s.wait)
  have a7 := set4_lies a6 tv ov s.at_ s.wait
  have e7 : One (Lay.set4 X A tv (.int .i64 s.at_) ov (.int .i64 s.wait)) E x2 25 := set4_other e6 h3.symm tv (.int .i64 s.at_) ov (.int .i64 s.wait)
  have q7 : ∀ d, d ≠ A → (Lay.set4 X A tv (.int .i64 s.at_) ov (.int .i64 s.wait)).heap[d]? = X.heap[d]? := fun d hd => set4_keep hd _ _ _ _
  have z7 : (Lay.set4 X A tv (.int .i64 s.at_) ov (.int .i64 s.wait)).heap.size = X.heap.size := set4_size _ _ _ _
  have b7 := set4_below b6 h5 tv (.int .i64 s.at_) ov (.int .i64 s.wait)
  generalize Lay.set4 X A tv (.int .i64 s.at_) ov (.int .i64 s.wait) = Y at *
  have hr : ∀ b, b < Z.heap.size → Pm P l b → (Y.setCell ⟨E, 0, none⟩ (.int .i64 0)).drew.heap[b]? = Z.heap[b]? ∧ Pm P l b := fun b _ hb => ⟨(heap_set (p := ⟨E, 0, none⟩) (fun e => hb.2 (by rw [e]; exact hm3))).trans ((q7 b (fun e => hb.2 (by rw [e]; exact hm2))).trans (q b (fun e => hb.2 (by rw [e]; exact hm)))), hb⟩
  have sz : (Y.setCell ⟨E, 0, none⟩ (.int .i64 0)).drew.heap.size = Z.heap.size := (World.size_setCell _ _ _).trans (z7.trans z6)
  exact ⟨lies_drew (Lies.other l7 h2 _), lies_drew (Lies.other a7 h3 _), lies_drew (One.set e7 _), hk.kept (by omega) hr, hs.kept (by omega) hr, bel_drew (b7.setCell (p := ⟨E, 0, none⟩) h6 _)⟩
theorem store6 {w w2 w3 : World} {P : Nat → Prop} {l : List Nat} {pb R A E n : Nat} {s : Sx} {kv : Value} {k : Fo} {oA oE : Obj} {h0 : Hd} {kv0 : Value} (k6 : Kp w2 w3 pb none) (hp : Par w3 (Pm P l) pb s) (hk : KOn w3 (Pm P l) kv k) (hl : Lies w3 R (ndO h0 kv0)) (h : Hd) (ha : Lies w3 A oA) (he : Lies w3 E oE) (hb : Below n w w3) (hm : R ∈ l) (h1 : pb ≠ R) (h2 : A ≠ R) (h3 : E ≠ R) (h4 : n ≤ R) :
    (fun Z => Par Z (Pm P l) pb s ∧ KOn Z (Pm P l) kv k ∧ Lies Z R (ndO h kv) ∧ Lies Z A oA ∧ Lies Z E oE ∧ Below n w Z ∧ pb < Z.heap.size) (Tre.set6 w3 R (.int .i64 h.kind) (.int .i64 h.form) (.string h.text) (.int .i64 h.line) (.int .i64 h.col) kv) := by
  have b6 := set6_below hb h4 (.int .i64 h.kind) (.int .i64 h.form) (.string h.text) (.int .i64 h.line) (.int .i64 h.col) kv
  have q : ∀ d, d ≠ R → (Tre.set6 w3 R (.int .i64 h.kind) (.int .i64 h.form) (.string h.text) (.int .i64 h.line) (.int .i64 h.col) kv).heap[d]? = w3.heap[d]? := fun d hd => set6_keep w3 hd _ _ _ _ _ _
  have z6 : (Tre.set6 w3 R (.int .i64 h.kind) (.int .i64 h.form) (.string h.text) (.int .i64 h.line) (.int .i64 h.col) kv).heap.size = w3.heap.size := set6_size w3 R _ _ _ _ _ _
  have l6 := Lies.all6 hl h kv
  generalize Tre.set6 w3 R (.int .i64 h.kind) (.int .i64 h.form) (.string h.text) (.int .i64 h.line) (.int .i64 h.col) kv = W at *
  have hr : ∀ b, b < w3.heap.size → Pm P l b → W.heap[b]? = w3.heap[b]? ∧ Pm P l b := fun b _ hb => ⟨q b (fun e => hb.2 (by rw [e]; exact hm)), hb⟩
  exact ⟨hp.kept (by omega) (q _ h1) hr, hk.kept (by omega) hr, l6, (q _ h2).trans ha, (q _ h3).trans he, b6, by have := hp.lt; omega⟩
theorem kp_bw {n pb : Nat} {w V W : World} (hb : Below n w V) (k : Kp V W pb none) (hn : n ≤ pb) (hv : n ≤ V.heap.size) : Below n w W :=
  ⟨k.os.trans hb.os, k.tape.trans hb.tape, k.output.trans hb.output, Nat.le_trans hb.size k.size, fun b hlt => (k.block b (by omega) (by omega) (by simp)).trans (hb.block b hlt)⟩
set_option maxRecDepth 1000000 in
set_option maxHeartbeats 2000000 in
theorem parse_any {N : Nat} (hN : N ≤ 1099511627776) (R : NextOn 49) (K : FuncId) (hent : ∀ args w, (callFunc K args).run Tryz.prog w = .ok (.enter K args) w) (deep d2 : Int) (hd2 : d2 = min deep 100) (x : Rd) (s : Sx)
    (CF : ∀ (P : Nat → Prop) (pb : Nat) (W : World), Par W P pb s → (∀ b, W.heap.size ≤ b → P b) → ¬ P pb → Calls Tryz.prog K #[.pointer (some ⟨pb, 0, none⟩), .int .i64 d2] W (POut x P pb none W))
    (P : Nat → Prop) (tv ov : Value) (w : World) (hs : StOn w P tv ov s) (hf : Fits N s) (hP : ∀ b, w.heap.size ≤ b → P b) :
    Calls Tryz.prog 13 #[stV tv s.at_ ov s.wait, .int .i64 deep, .func (.func K) #[] #[]] w (TOut (cleanR x) P w) := by
  obtain ⟨ta, tc, oa, oc, rfl, rfl⟩ := hs.len
  have hmf : ∀ (fn : Fn) (first cap : Array Value) (w : World), (Instr.makeFunc fn first cap).run Tryz.prog w = .ok (.func fn first cap) w := fun _ _ _ _ => rfl
  have CM := Lib.hid (fun Q pb W a b c d => move_any hN R Q pb (.slice ta s.toks.length tc) (.slice oa s.opn.length oc) s W a b hf c d)
  unfold stV at CM
  unfold stV
  have HS := Lib.hid hs
  have HP := Lib.hid hP
  have HC := Lib.hid CF
  have hle : deep ≤ 100 ∨ 100 < deep := by omega
  have HD := Lib.hid hd2
  clear hs hf hP R CF hd2
  go_enter_defers Tryz.func13, Tryz.ntmps13
  go_upto_region 3 with fail
  refine gen_world (fun V => (Lies V w.heap.size (stB (.slice ta s.toks.length tc) s.at_ (.slice oa s.opn.length oc) s.wait) ∧ Lies V (w.heap.size + 1) zNd ∧ Lies V (w.heap.size + 1 + 1) (stB (.slice none 0 0) 0 (.slice none 0 0) 0) ∧ One V (w.heap.size + 1 + 1 + 1) (.int .i64 0) 25 ∧ ParX V (w.heap.size + 1 + 1 + 1 + 1) ∧ Below w.heap.size w V)) ?_ ?_
  · obtain ⟨f1, f2, f3, f4, f5, f6⟩ := four_new w (stB (.slice ta s.toks.length tc) s.at_ (.slice oa s.opn.length oc) s.wait) zNd (stB (.slice none 0 0) 0 (.slice none 0 0) 0) (.cells #[.int .i64 0] 25)
    have f7 := Lies.new ((((w.alloc (stB (.slice ta s.toks.length tc) s.at_ (.slice oa s.opn.length oc) s.wait)).alloc zNd).alloc (stB (.slice none 0 0) 0 (.slice none 0 0) 0)).alloc (.cells #[.int .i64 0] 25)) (parO (.slice none 0 0) 0 (.slice none 0 0) 0 Lay.zeroT (.slice none 0 0) 0 (.slice none 0 0) 0 0)
    rw [f6] at f7
    exact ⟨f1.alloc _, f2.alloc _, f3.alloc _, Lies.alloc f4 _, ⟨_, _, _, _, _, _, _, _, _, _, _, _, _, _, _, _, _, _, f7⟩, afterL f5 (below_one _ _)⟩
  rintro V ⟨lV, rV, aV, eV, pV, bV⟩
  have hlt : (w.heap.size + 1 + 1 + 1 + 1) < V.heap.size := by
    obtain ⟨_, _, _, _, _, _, _, _, _, _, _, _, _, _, _, _, _, _, h⟩ := pV
    exact h.lt
  have oV := HS.out.into (l := [(w.heap.size + 1), (w.heap.size + 1 + 1), (w.heap.size + 1 + 1 + 1), (w.heap.size + 1 + 1 + 1 + 1)]) bV (by simp; omega)
  have hge : ∀ b, V.heap.size ≤ b → (Pm P [(w.heap.size + 1), (w.heap.size + 1 + 1), (w.heap.size + 1 + 1 + 1), (w.heap.size + 1 + 1 + 1 + 1)]) b := Pm.of HP.out (by simp; omega) bV.size
  have hnp : ¬ (Pm P [(w.heap.size + 1), (w.heap.size + 1 + 1), (w.heap.size + 1 + 1 + 1), (w.heap.size + 1 + 1 + 1 + 1)]) (w.heap.size + 1 + 1 + 1 + 1) := fun h => h.2 (by simp)
  have MV := Lib.hid (CM.out _ (w.heap.size + 1 + 1 + 1 + 1) V pV oV hge hnp)
  obtain ⟨a0, a1, a2, a3⟩ := four_st lV
  have HGE := Lib.hid hge
  have HNP := Lib.hid hnp
  have RV := Lib.hid rV
  have AV := Lib.hid aV
  have EV := Lib.hid eV
  have BV := Lib.hid bV
  have HLT := Lib.hid hlt
  clear lV rV aV eV pV bV hlt oV hge hnp CM HS
  go_upto_region 4 with (first
    | (go_at_call 24; refine MV.out.mono ?_; rintro e w2 ⟨rfl, p2, q2⟩; have P2 := Lib.hid p2; have K2 := Lib.hid q2; clear p2 q2))
  have FX := Lib.hid (HC.out (Pm P [(w.heap.size + 1), (w.heap.size + 1 + 1), (w.heap.size + 1 + 1 + 1), (w.heap.size + 1 + 1 + 1 + 1)]) (w.heap.size + 1 + 1 + 1 + 1) w2 P2.out (fun b hb => HGE.out b (Nat.le_trans K2.out.size hb)) HNP.out)
  have u2 := kp_lies K2.out RV.out (by omega) (by simp)
  have v2 := kp_lies K2.out AV.out (by omega) (by simp)
  have z2 : One w2 (w.heap.size + 1 + 1 + 1) (.int .i64 0) 25 := kp_lies K2.out EV.out (by omega) (by simp)
  have RX := Lib.hid u2
  have AX := Lib.hid v2
  have EX := Lib.hid z2
  clear u2 v2 z2 a0 a1 a2 a3 MV HC
  have FX2 : Hid (∀ d3 : Int, d3 = min deep 100 → Calls Tryz.prog K #[.pointer (some ⟨(w.heap.size + 1 + 1 + 1 + 1), 0, none⟩), .int .i64 d3] w2 (POut x (Pm P [(w.heap.size + 1), (w.heap.size + 1 + 1), (w.heap.size + 1 + 1 + 1), (w.heap.size + 1 + 1 + 1 + 1)]) (w.heap.size + 1 + 1 + 1 + 1) none w2)) := by
    intro d3 h3
    have h := FX.out
    rw [HD.out, ← h3] at h
    exact h
  clear FX HD
  clear hle
  by_cases x0 : x.e = 0
  · rw [POut.ok x0] at FX2
    unfold OkOut ndV at FX2
    have X0 := Lib.hid x0
    clear x0
    go_upto_region 5 with (first
      | (refine (FX2.out _ (by omega)).mono ?_; rintro e w3 ⟨ka3, kc3, rfl, k3, p3, q3⟩; have KY := Lib.hid k3; have P3 := Lib.hid p3; have K3 := Lib.hid q3; have r4 := kp_lies q3 RX.out (by omega) (by simp); clear k3 p3 q3; unfold zNd at r4; obtain ⟨⟨e0, e1, e2, e3, e4, e5⟩, f0, f1, f2, f3, f4, f5⟩ := r4.nodef; have R9 := Lib.hid r4; clear r4))
    refine gen_world (fun Z => Par Z (Pm P [(w.heap.size + 1), (w.heap.size + 1 + 1), (w.heap.size + 1 + 1 + 1), (w.heap.size + 1 + 1 + 1 + 1)]) (w.heap.size + 1 + 1 + 1 + 1) x.s ∧ KOn Z (Pm P [(w.heap.size + 1), (w.heap.size + 1 + 1), (w.heap.size + 1 + 1 + 1), (w.heap.size + 1 + 1 + 1 + 1)]) (.slice ka3 (len x.k) kc3) x.k ∧ Lies Z (w.heap.size + 1) (ndO x.h (.slice ka3 (len x.k) kc3)) ∧ Lies Z (w.heap.size + 1 + 1) (stB (.slice none 0 0) 0 (.slice none 0 0) 0) ∧ One Z (w.heap.size + 1 + 1 + 1) (.int .i64 0) 25 ∧ Below w.heap.size w Z ∧ (w.heap.size + 1 + 1 + 1 + 1) < Z.heap.size) ?_ ?_
    · exact store6 (oA := stB (.slice none 0 0) 0 (.slice none 0 0) 0) (oE := .cells #[.int .i64 0] 25) K3.out P3.out KY.out R9.out x.h (kp_lies K3.out AX.out (by omega) (by simp)) (kp_lies (o := .cells #[.int .i64 0] 25) K3.out EX.out (by omega) (by simp)) (kp_bw BV.out (K2.out.trans K3.out) (by omega) (by have := HLT.out; omega)) (by simp) (by omega) (by omega) (by omega) (by omega)
    rintro Z ⟨pZ, kZ, rZ, aZ, eZ, bZ, hlt⟩
    clear e0 e1 e2 e3 e4 e5 f0 f1 f2 f3 f4 f5 R9 K3 P3 KY AX EX RX K2 P2 BV RV AV EV
    obtain ⟨ta1, tc1, oa1, oc1, ta2, tc2, oa2, oc2, lp, sp, -⟩ := pZ
    obtain ⟨c0, c1, c2, c3, c4, c5, c6, c7, c8, c9, c10, c11, c12⟩ := thirteen lp
    obtain ⟨⟨d0, d1, d2, d3, d4, d5⟩, g0, g1, g2, g3, g4, g5⟩ := rZ.nodef
    obtain ⟨a0, a1, a2, a3⟩ := four_st aZ
    obtain ⟨i0, i1, i2, i3⟩ := four_fr aZ
    have j0 := One.c0 eZ
    have j1 := Lies.free eZ 0
    have RZ := Lib.hid rZ
    have AZ := Lib.hid aZ
    have EZ := Lib.hid eZ
    have KZ := Lib.hid kZ
    have SZ := Lib.hid sp
    have BZ := Lib.hid bZ
    have LT := Lib.hid hlt
    clear rZ aZ eZ kZ lp sp bZ hlt
    have n1 : ¬ (w.heap.size + 1) = (w.heap.size + 1 + 1) := by omega
    have n2 : ¬ (w.heap.size + 1) = (w.heap.size + 1 + 1 + 1) := by omega
    have n3 : ¬ (w.heap.size + 1) = (w.heap.size + 1 + 1 + 1 + 1) := by omega
    have n4 : ¬ (w.heap.size + 1 + 1) = (w.heap.size + 1 + 1 + 1) := by omega
    have n5 : ¬ (w.heap.size + 1 + 1) = (w.heap.size + 1 + 1 + 1 + 1) := by omega
    have n6 : ¬ (w.heap.size + 1 + 1 + 1) = (w.heap.size + 1 + 1 + 1 + 1) := by omega
    have n7 : ¬ (w.heap.size + 1 + 1) = (w.heap.size + 1) := by omega
    have n8 : ¬ (w.heap.size + 1 + 1 + 1) = (w.heap.size + 1) := by omega
    have n9 : ¬ (w.heap.size + 1 + 1 + 1 + 1) = (w.heap.size + 1) := by omega
    have n10 : ¬ (w.heap.size + 1 + 1 + 1) = (w.heap.size + 1 + 1) := by omega
    have n11 : ¬ (w.heap.size + 1 + 1 + 1 + 1) = (w.heap.size + 1 + 1) := by omega
    have n12 : ¬ (w.heap.size + 1 + 1 + 1 + 1) = (w.heap.size + 1 + 1 + 1) := by omega
    generalize (Value.int .i64 (if 100 < deep then 100 else deep)) = dv at *
    clear FX2 HGE HNP hent hmf
    go_wp2_with fail
    go_region
    go_wp2_with fail
    refine gen_postD (fun Y => Lies Y (w.heap.size + 1) (ndO x.h (.slice ka3 (len x.k) kc3)) ∧ Lies Y (w.heap.size + 1 + 1) (stB (.slice ta1 x.s.toks.length tc1) x.s.at_ (.slice oa1 x.s.opn.length oc1) x.s.wait) ∧ One Y (w.heap.size + 1 + 1 + 1) (.int .i64 0) 25 ∧ KOn Y (Pm P [(w.heap.size + 1), (w.heap.size + 1 + 1), (w.heap.size + 1 + 1 + 1), (w.heap.size + 1 + 1 + 1 + 1)]) (.slice ka3 (len x.k) kc3) x.k ∧ StOn Y (Pm P [(w.heap.size + 1), (w.heap.size + 1 + 1), (w.heap.size + 1 + 1 + 1), (w.heap.size + 1 + 1 + 1 + 1)]) (.slice ta1 x.s.toks.length tc1) (.slice oa1 x.s.opn.length oc1) x.s ∧ Below w.heap.size w Y) ?_ ?_
    · exact store11 RZ.out AZ.out EZ.out KZ.out SZ.out BZ.out (by simp) (by simp) (by simp) (by omega) (by omega) (by omega) (by omega) (by omega) (by omega)
    rintro Y ⟨l1, l2, l3, k1, s1, b1⟩
    refine leaves_cons (f := 23) (args := #[.pointer (some ⟨(w.heap.size + 1 + 1), 0, none⟩), .pointer (some ⟨(w.heap.size + 1 + 1 + 1), 0, none⟩)]) (by simp) (by simp [go_sem]) ?_
    refine (pcatch_idle (w.heap.size + 1 + 1) (w.heap.size + 1 + 1 + 1) Y).mono ?_
    rintro e u' w6 ⟨rfl, rfl, hb6⟩
    refine ⟨_, res_parse Tryz.results13 rfl rfl rfl (l1.below hb6 l1.lt) (l2.below hb6 l2.lt) (Lies.below l3 hb6 (Lies.lt l3)), ?_⟩
    have hx : cleanR x = x := by
      unfold cleanR
      rw [if_pos X0.out]
    rw [hx]
    refine ⟨ka3, kc3, ta1, tc1, oa1, oc1, by rw [X0.out], KOn.kx (k1.below hb6 (Nat.le_refl _)) (fun b _ h => h.1), (s1.below hb6 (Nat.le_refl _)).less (fun b _ h => h.1), afterL b1 hb6⟩
  · rw [POut.bad x0] at FX2
    unfold BadOut fltV at FX2
    have X0 := Lib.hid x0
    clear x0
    go_wp2_with (first
      | (refine (FX2.out _ (by omega)).mono ?_; rintro e w3 ⟨ta4, tc4, oa4, oc4, rfl, s4, q4⟩; have S4 := Lib.hid s4; have K3 := Lib.hid q4; clear s4 q4))
    · have k6 := K3.out
      have l1 := kp_lies k6 RX.out (by omega) (by simp)
      have l2 := kp_lies k6 AX.out (by omega) (by simp)
      have l3 : One w3 (w.heap.size + 1 + 1 + 1) (.int .i64 0) 25 := kp_lies k6 EX.out (by omega) (by simp)
      have b3 := kp_bw BV.out (K2.out.trans k6) (n := w.heap.size) (by omega) (by have := HLT.out; omega)
      refine leaves_cons (f := 23) (args := #[.pointer (some ⟨(w.heap.size + 1 + 1), 0, none⟩), .pointer (some ⟨(w.heap.size + 1 + 1 + 1), 0, none⟩)]) (by simp) (by simp [go_sem]) ?_
      refine (pcatch_fault (w.heap.size + 1 + 1) (w.heap.size + 1 + 1 + 1) ta4 _ tc4 x.s.at_ oa4 _ oc4 x.s.wait x.e _ _ 0 0 _ [] w3 l2 l3 (by omega)).mono ?_
      rintro e u' w6 ⟨rfl, rfl, m2, m3, ho, ht, hu, hz, hk⟩
      have m1 : Lies w6 (w.heap.size + 1) zNd := (hk _ l1.lt (by omega) (by omega)).trans l1
      unfold zNd at m1
      refine ⟨_, res_parse Tryz.results13 rfl rfl rfl m1 m2 m3, ?_⟩
      have hx : cleanR x = errR x.s x.e := by
        unfold cleanR
        rw [if_neg X0.out]
      rw [hx]
      refine ⟨none, 0, ta4, tc4, oa4, oc4, rfl, KOn.nil .., S4.out.kept hz (fun b hb h => ⟨hk b hb (fun e => h.2 (by rw [e]; simp)) (fun e => h.2 (by rw [e]; simp)), h.1⟩), ⟨ho.trans b3.os, ht.trans b3.tape, hu.trans b3.output, Nat.le_trans b3.size hz, fun b hb => (hk b (by have := b3.size; omega) (by omega) (by omega)).trans (b3.block b hb)⟩⟩
    · have k6 := K3.out
      have l1 := kp_lies k6 RX.out (by omega) (by simp)
      have l2 := kp_lies k6 AX.out (by omega) (by simp)
      have l3 : One w3 (w.heap.size + 1 + 1 + 1) (.int .i64 0) 25 := kp_lies k6 EX.out (by omega) (by simp)
      have b3 := kp_bw BV.out (K2.out.trans k6) (n := w.heap.size) (by omega) (by have := HLT.out; omega)
      refine leaves_cons (f := 23) (args := #[.pointer (some ⟨(w.heap.size + 1 + 1), 0, none⟩), .pointer (some ⟨(w.heap.size + 1 + 1 + 1), 0, none⟩)]) (by simp) (by simp [go_sem]) ?_
      refine (pcatch_fault (w.heap.size + 1 + 1) (w.heap.size + 1 + 1 + 1) ta4 _ tc4 x.s.at_ oa4 _ oc4 x.s.wait x.e _ _ 0 0 _ [] w3 l2 l3 (by omega)).mono ?_
      rintro e u' w6 ⟨rfl, rfl, m2, m3, ho, ht, hu, hz, hk⟩
      have m1 : Lies w6 (w.heap.size + 1) zNd := (hk _ l1.lt (by omega) (by omega)).trans l1
      unfold zNd at m1
      refine ⟨_, res_parse Tryz.results13 rfl rfl rfl m1 m2 m3, ?_⟩
      have hx : cleanR x = errR x.s x.e := by
        unfold cleanR
        rw [if_neg X0.out]
      rw [hx]
      refine ⟨none, 0, ta4, tc4, oa4, oc4, rfl, KOn.nil .., S4.out.kept hz (fun b hb h => ⟨hk b hb (fun e => h.2 (by rw [e]; simp)) (fun e => h.2 (by rw [e]; simp)), h.1⟩), ⟨ho.trans b3.os, ht.trans b3.tape, hu.trans b3.output, Nat.le_trans b3.size hz, fun b hb => (hk b (by have := b3.size; omega) (by omega) (by omega)).trans (b3.block b hb)⟩⟩
end Go.Proofs.YtmgclgojmckfhaaGreatDoor.Typ
/-
  The program's Atom, Row, Type, Full over what parse does. No condition.
-/
namespace Go.Proofs.YtmgclgojmckfhaaGreatDoor.Typ
open Tks Tre Go.RowKit
open Lay (Sx StV Fit9 nextS NextOut tkV9 IntArg Kp)
set_option linter.unusedSimpArgs false
set_option linter.unusedVariables false

theorem res_form {fn : Func} {c1 c2 c3 : Tmp} (hf : fn.results = #[.cell c1 30, .cell c2 33, .tmp c3]) {tmps : Array Value} {w : World} {B C : Nat} {h : Hd} {ka ta oa : Option Addr} {kn kc tn tc on oc : Nat} {i wt x : Int} (h1 : tmps.getD c1 undef = .pointer (some ⟨B, 0, none⟩)) (h2 : tmps.getD c2 undef = .pointer (some ⟨C, 0, none⟩)) (h3 : tmps.getD c3 undef = .int .i64 x) (hl : Lies w B (ndO h (.slice ka kn kc))) (hm : Lies w C (stB (.slice ta tn tc) i (.slice oa on oc) wt)) :
    (results fn tmps).run Tryz.prog w = .ok (.tuple #[ndV h (.slice ka kn kc), stV (.slice ta tn tc) i (.slice oa on oc) wt, .int .i64 x]) w := by
  obtain ⟨⟨k0, k1, k2, k3, k4, k5⟩, -⟩ := hl.nodef
  obtain ⟨m0, m1, m2, m3⟩ := four_st hm
  have e1 : tmps[c1]?.getD undef = .pointer (some ⟨B, 0, none⟩) := by
    rw [← Array.getD_eq_getD_getElem?]
    exact h1
  have e2 : tmps[c2]?.getD undef = .pointer (some ⟨C, 0, none⟩) := by
    rw [← Array.getD_eq_getD_getElem?]
    exact h2
  have e3 : tmps[c3]?.getD undef = .int .i64 x := by
    rw [← Array.getD_eq_getD_getElem?]
    exact h3
  unfold ndV stV
  simp [results, hf, e1, e2, e3, go_sem, k0, k1, k2, k3, k4, k5, m0, m1, m2, m3]
theorem store10 {w Z : World} {P : Nat → Prop} {l : List Nat} {R A n : Nat} {s : Sx} {tv ov : Value} {ka : Option Addr} {kn kc : Nat} {k : Fo} {h0 h : Hd} {u0 u1 v0 : Value} {i0 i1 : Int} (hl : Lies Z R (ndO h0 v0)) (ha : Lies Z A (stB u0 i0 u1 i1)) (hk : KOn Z (Pm P l) (.slice ka kn kc) k) (hs : StOn Z (Pm P l) tv ov s) (hb : Below n w Z) (hm : R ∈ l) (hm2 : A ∈ l) (h1 : R ≠ A) (h4 : n ≤ R) (h5 : n ≤ A) :
    (fun W => Lies W R (ndO h (.slice ka kn kc)) ∧ Lies W A (stB tv s.at_ ov s.wait) ∧ KOn W (Pm P l) (.slice ka kn kc) k ∧ StOn W (Pm P l) tv ov s ∧ Below n w W) (Lay.set4 (Tre.set6 Z R (.int .i64 h.kind) (.int .i64 h.form) (.string h.text) (.int .i64 h.line) (.int .i64 h.col) (.slice ka kn kc)) A tv (.int .i64 s.at_) ov (.int .i64 s.wait)) := by
  have b6 := set6_below hb h4 (.int .i64 h.kind) (.int .i64 h.form) (.string h.text) (.int .i64 h.line) (.int .i64 h.col) (.slice ka kn kc)
  have q : ∀ d, d ≠ R → (Tre.set6 Z R (.int .i64 h.kind) (.int .i64 h.form) (.string h.text) (.int .i64 h.line) (.int .i64 h.col) (.slice ka kn kc)).heap[d]? = Z.heap[d]? := fun d hd => set6_keep Z hd _ _ _ _ _ _
  have z6 : (Tre.set6 Z R (.int .i64 h.kind) (.int .i64 h.form) (.string h.text) (.int .i64 h.line) (.int .i64 h.col) (.slice ka kn kc)).heap.size = Z.heap.size := set6_size Z R _ _ _ _ _ _
  have l6 := Lies.all6 hl h (.slice ka kn kc)
  generalize Tre.set6 Z R (.int .i64 h.kind) (.int .i64 h.form) (.string h.text) (.int .i64 h.line) (.int .i64 h.col) (.slice ka kn kc) = X at *
  have a6 : Lies X A (stB u0 i0 u1 i1) := (q _ h1.symm).trans ha
  have l7 := set4_other l6 h1 tv (.int .i64 s.at_) ov (.int .i64 s.wait)
  have a7 := set4_lies a6 tv ov s.at_ s.wait
  have q7 : ∀ d, d ≠ A → (Lay.set4 X A tv (.int .i64 s.at_) ov (.int .i64 s.wait)).heap[d]? = X.heap[d]? := fun d hd => set4_keep hd _ _ _ _
  have z7 : (Lay.set4 X A tv (.int .i64 s.at_) ov (.int .i64 s.wait)).heap.size = X.heap.size := set4_size _ _ _ _
  have b7 := set4_below b6 h5 tv (.int .i64 s.at_) ov (.int .i64 s.wait)
  generalize Lay.set4 X A tv (.int .i64 s.at_) ov (.int .i64 s.wait) = Y at *
  have hr : ∀ b, b < Z.heap.size → Pm P l b → Y.heap[b]? = Z.heap[b]? ∧ Pm P l b := fun b _ hb => ⟨(q7 b (fun e => hb.2 (by rw [e]; exact hm2))).trans (q b (fun e => hb.2 (by rw [e]; exact hm))), hb⟩
  exact ⟨l7, a7, hk.kept (by omega) hr, hs.kept (by omega) hr, b7⟩
theorem gen_post {P : Program} {fn : Func} {R : Ending → World → Prop} {e : Exit} {a : Act} {w : World} (M : World → Prop) (h : M w) (k : ∀ w, M w → bodyPost P fn R e a w) : bodyPost P fn R e a w := k w h
set_option maxRecDepth 1000000 in
set_option maxHeartbeats 1000000 in
theorem pfull_form (x : Rd) (s : Sx) (deep : Int) (tv ov : Value)
    (C : ∀ (Q : Nat → Prop) (W : World), StOn W Q tv ov s → (∀ b, W.heap.size ≤ b → Q b) → Calls Tryz.prog 13 #[stV tv s.at_ ov s.wait, .int .i64 deep, .func (.func 14) #[] #[]] W (TOut x Q W))
    (P : Nat → Prop) (w : World) (hs : StOn w P tv ov s) (hP : ∀ b, w.heap.size ≤ b → P b) :
    Calls Tryz.prog 6 #[stV tv s.at_ ov s.wait, .int .i64 deep] w (TOut x P w) := by
  obtain ⟨ta, tc, oa, oc, rfl, rfl⟩ := hs.len
  have CM := Lib.hid C
  unfold TOut ndV stV at CM
  unfold stV
  have HS := Lib.hid hs
  have HP := Lib.hid hP
  clear hs hP C
  go_enter Tryz.func6, Tryz.ntmps6
  go_upto_region 1 with fail
  refine gen_world (fun V => (Lies V w.heap.size (stB (.slice ta s.toks.length tc) s.at_ (.slice oa s.opn.length oc) s.wait) ∧ Lies V (w.heap.size + 1) zNd ∧ Lies V (w.heap.size + 1 + 1) (stB (.slice none 0 0) 0 (.slice none 0 0) 0) ∧ Below w.heap.size w V)) ?_ ?_
  · obtain ⟨h1, h2, h3, hb, hsz⟩ := Tre.three_lie w (stB (.slice ta s.toks.length tc) s.at_ (.slice oa s.opn.length oc) s.wait) zNd (stB (.slice none 0 0) 0 (.slice none 0 0) 0)
    exact ⟨h1, h2, h3, hb⟩
  rintro V ⟨lV, rV, aV, bV⟩
  have hlt : (w.heap.size + 1 + 1) < V.heap.size := aV.lt
  have oV := HS.out.into (l := [(w.heap.size + 1), (w.heap.size + 1 + 1)]) bV (by simp; omega)
  have hge : ∀ b, V.heap.size ≤ b → (Pm P [(w.heap.size + 1), (w.heap.size + 1 + 1)]) b := Pm.of HP.out (by simp; omega) bV.size
  have MV := Lib.hid (CM.out _ V oV hge)
  obtain ⟨a0, a1, a2, a3⟩ := four_st lV
  have RV := Lib.hid rV
  have AV := Lib.hid aV
  have BV := Lib.hid bV
  have HLT := Lib.hid hlt
  clear lV rV aV bV hlt oV hge CM HS
  have n1 : ¬ (w.heap.size + 1) = (w.heap.size + 1 + 1) := by omega
  have n2 : ¬ (w.heap.size + 1 + 1) = (w.heap.size + 1) := by omega
  go_wp2_with (first
    | (go_at_call 13; refine MV.out.mono ?_; rintro e w2 ⟨ka2, kc2, ta2, tc2, oa2, oc2, rfl, k2, s2, b2⟩; have r2 := RV.out.below b2 RV.out.lt; have z2 := AV.out.below b2 AV.out.lt; have K2 := Lib.hid k2; have S2 := Lib.hid s2; have B2 := Lib.hid (afterL BV.out b2); clear k2 s2 b2 a0 a1 a2 a3; unfold zNd at r2; obtain ⟨⟨e0, e1, e2, e3, e4, e5⟩, f0, f1, f2, f3, f4, f5⟩ := r2.nodef; have R9 := Lib.hid r2; obtain ⟨u0, u1, u2, u3⟩ := four_st z2; obtain ⟨v0, v1, v2, v3⟩ := four_fr z2; have A9 := Lib.hid z2; clear r2 z2))
  refine gen_post (fun Y => Lies Y (w.heap.size + 1) (ndO x.h (.slice ka2 (len x.k) kc2)) ∧ Lies Y (w.heap.size + 1 + 1) (stB (.slice ta2 x.s.toks.length tc2) x.s.at_ (.slice oa2 x.s.opn.length oc2) x.s.wait) ∧ KOn Y (Pm P [(w.heap.size + 1), (w.heap.size + 1 + 1)]) (.slice ka2 (len x.k) kc2) x.k ∧ StOn Y (Pm P [(w.heap.size + 1), (w.heap.size + 1 + 1)]) (.slice ta2 x.s.toks.length tc2) (.slice oa2 x.s.opn.length oc2) x.s ∧ Below w.heap.size w Y) ?_ ?_
  · exact store10 R9.out A9.out K2.out S2.out B2.out (by simp) (by simp) (by omega) (by omega) (by omega)
  rintro Y ⟨l1, l2, k1, s1, b1⟩
  refine bodyPost_ret (res_form Tryz.results6 rfl rfl rfl l1 l2) rfl ?_
  exact ⟨ka2, kc2, ta2, tc2, oa2, oc2, rfl, KOn.kx k1 (fun b _ h => h.1), s1.less (fun b _ h => h.1), b1⟩
end Go.Proofs.YtmgclgojmckfhaaGreatDoor.Typ
