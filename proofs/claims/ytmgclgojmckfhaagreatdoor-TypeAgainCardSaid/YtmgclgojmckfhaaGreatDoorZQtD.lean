/-
  The contracts of package quote's read: what is thrown is caught by the deferred function. Conditions: the string has at most 2^50 bytes; the program's list of names stands.
-/
import Derived.Test.YtmgclgojmckfhaaGreatDoorZQtC
import Derived.Test.YtmgclgojmckfhaaGreatDoorZGlyB
import Derived.Defers
import Derived.Recover
import Derived.RegionTactic
import Derived.Laws.Pointers
import Derived.Shelf.Abstract
import Derived.OwnWalk
import Derived.Laws.OwnMore
import Derived.Deep.AppendLies
import Derived.ArgAppend
namespace Go.Proofs.YtmgclgojmckfhaaGreatDoor.Qt
open Go.RowKit Gly
open Wrd (rn wd)
set_option linter.unusedSimpArgs false
set_option linter.unusedVariables false

/-- A block that holds one value. -/
def One (w : World) (g : Nat) (v : Value) (t : TypeId) : Prop := w.heap[g]? = some (.cells #[v] t (0, 0))
section
variable {w : World} {g : Nat} {v : Value} {t : TypeId}
theorem One.c0 (h : One w g v t) : w.cell? ⟨g, 0, none⟩ = some v := by rw [cell_of_row w g 0 _ _ _ h]; rfl
theorem One.free (h : One w g v t) : w.frozen? ⟨g, 0, none⟩ = false := by unfold One at h; simp [World.frozen?, h]
theorem One.lt (h : One w g v t) : g < w.heap.size := lt_of_block h
theorem One.below {B : Nat} {w' : World} (h : One w g v t) (hb : Below B w w') (hg : g < B) : One w' g v t := (hb.block g hg).trans h
theorem One.new (w : World) (v : Value) (t : TypeId) : One (w.alloc (.cells #[v] t)) w.heap.size v t := heap_alloc_new w _
theorem One.put (h : One w g v t) (v' : Value) : One (w.setCell ⟨g, 0, none⟩ v') g v' t := by
  unfold One at h ⊢
  simp [World.setCell, Array.getElem?_modify, h]
theorem One.other {k : Nat} (h : One w g v t) (hk : g ≠ k) (v' : Value) : One (w.setCell ⟨k, 0, none⟩ v') g v t := by
  unfold One at h ⊢
  have : ¬ k = g := fun e => hk e.symm
  simp [World.setCell, Array.getElem?_modify, h, this]
end

theorem frame20 (p q r u v : Value) : #[p, q, r] ++ ((Array.replicate 17 undef).setIfInBounds 3 u).setIfInBounds 0 v = #[p, q, r, v, undef, undef, u, undef, undef, undef, undef, undef, undef, undef, undef, undef, undef, undef, undef, undef] := by
  apply Array.ext'
  simp [List.replicate]
theorem assert_nil (w : World) : (Instr.typeAssert .nilIface 20 142 true).run Tryz.prog w = .ok (.tuple #[.agg #[.int .i64 0, .int .i64 0], .bool false]) w := by kernel_rfl
theorem assert_fault (v : Value) (w : World) : (Instr.typeAssert (.iface 142 v) 20 142 true).run Tryz.prog w = .ok (.tuple #[v, .bool true]) w := by
  simp [Instr.typeAssert, run_underlying Tryz.underlying142, go_sem]
theorem catch_idle (a b c : Nat) (w : World) :
    CallsD Tryz.prog 105 #[.pointer (some ⟨a, 0, none⟩), .pointer (some ⟨b, 0, none⟩), .pointer (some ⟨c, 0, none⟩)] .returning w fun e u' w' => e = .returned (.tuple #[]) ∧ u' = .returning ∧ Below w.heap.size w w' := by
  refine callsD_of_wpS Tryz.func105 rfl fun c₀ cs hu => ?_
  apply wpS_seq
  apply wpS_region
  simp [wpOpsS, go_sem, recoverD, hu, Tryz.ntmps105, Exit.thenS]
  refine wpS_of_wp ?_
  have HU := Lib.hid hu
  clear hu
  rw [frame20]
  have ta := fun w => assert_nil w
  go_wp2
  have hb : Below w.heap.size w (w.alloc (.cells #[.int .i64 0, .int .i64 0] 142)) := (Below.refl _ _).alloc (Nat.le_refl _) _
  refine ⟨rfl, .returning, ?_, .tuple #[], ?_, rfl, rfl, hb⟩
  · have := HU.out
    cases c₀
    simp_all
  · simp [results, Tryz.results105]
theorem catch_fault (a b c : Nat) (x0 x1 x2 : Value) (n : Nat) (x : Int) (older : List PanicEntry) (w : World) (ha : One w a x0 3) (hb : One w b x1 3) (hc : One w c x2 25) (hab : a < b) (hbc : b < c) (B : Nat) (hB : B ≤ a) :
    CallsD Tryz.prog 105 #[.pointer (some ⟨a, 0, none⟩), .pointer (some ⟨b, 0, none⟩), .pointer (some ⟨c, 0, none⟩)] (.panicking ({ v := fltV n x, recovered := false } :: older)) w fun e u' w' =>
      e = .returned (.tuple #[]) ∧ u' = .panicking ({ v := fltV n x, recovered := true } :: older) ∧ Below B w w' ∧ One w' a (.int .i64 0) 3 ∧ One w' b (.int .i64 (n : Int)) 3 ∧ One w' c (.int .i64 x) 25 := by
  refine callsD_of_wpS Tryz.func105 rfl fun c₀ cs hu => ?_
  unfold fltV at *
  apply wpS_seq
  apply wpS_region
  simp [wpOpsS, go_sem, recoverD, hu, Tryz.ntmps105, Exit.thenS]
  refine wpS_of_wp ?_
  have HU := Lib.hid hu
  clear hu
  rw [frame20]
  have ta := fun w => assert_nil w
  have tb := fun w => assert_fault (.agg #[.int .i64 (n : Int), .int .i64 x]) w
  have hT : Below w.heap.size w (w.alloc (.cells #[.int .i64 (n : Int), .int .i64 x] 142)) := (Below.refl _ _).alloc (Nat.le_refl _) _
  have oa := Lib.hid (ha.below hT ha.lt)
  have ob := Lib.hid (hb.below hT hb.lt)
  have oc := Lib.hid (hc.below hT hc.lt)
  have p1 := oa.out.c0
  have p2 := ob.out.c0
  have p3 := oc.out.c0
  have p4 := oa.out.free
  have p5 := ob.out.free
  have p6 := oc.out.free
  have n1 : ¬ a = b := by omega
  have n2 : ¬ b = a := by omega
  have n3 : ¬ a = c := by omega
  have n4 : ¬ c = a := by omega
  have n5 : ¬ b = c := by omega
  have n6 : ¬ c = b := by omega
  have r1 := ha.c0
  have r2 := hb.c0
  have r3 := hc.c0
  have r4 := ha.free
  have r5 := hb.free
  have r6 := hc.free
  have HA := Lib.hid ha
  have HB' := Lib.hid hb
  have HC := Lib.hid hc
  have m1 := ha.lt
  have m2 := hb.lt
  have m3 := hc.lt
  have HT := Lib.hid hT
  clear ha hb hc hT
  go_wp2
  go_region
  have bw : Below B w ((((w.setCell ⟨a, 0, none⟩ (.int .i64 0)).setCell ⟨b, 0, none⟩ (.int .i64 (n : Int))).setCell ⟨c, 0, none⟩ (.int .i64 x)).alloc (.cells #[.int .i64 (n : Int), .int .i64 x] 142)).drew := by
    refine below_drewN ?_ 1
    refine Below.alloc ?_ (by simp; omega) _
    exact (((Below.refl B w).setCell (p := ⟨a, 0, none⟩) hB _).setCell (p := ⟨b, 0, none⟩) (by show B ≤ b; omega) _).setCell (p := ⟨c, 0, none⟩) (by show B ≤ c; omega) _
  refine ⟨rfl, .panicking ({ v := .iface 142 (.agg #[.int .i64 (n : Int), .int .i64 x]), recovered := true } :: older), ?_, .tuple #[], ?_, rfl, rfl, bw, ?_, ?_, ?_⟩
  · have := HU.out
    cases c₀
    simp_all
  · simp [results, Tryz.results105]
  · have h := ((HA.out.put (.int .i64 0)).other n1 (.int .i64 (n : Int))).other n3 (.int .i64 x)
    exact (((Below.refl _ _).alloc (Nat.le_refl _) _).block a h.lt).trans h
  · have h := ((HB'.out.other n2 (.int .i64 0)).put (.int .i64 (n : Int))).other n5 (.int .i64 x)
    exact (((Below.refl _ _).alloc (Nat.le_refl _) _).block b h.lt).trans h
  · have h := ((HC.out.other n4 (.int .i64 0)).other n6 (.int .i64 (n : Int))).put (.int .i64 x)
    exact (((Below.refl _ _).alloc (Nat.le_refl _) _).block c h.lt).trans h
theorem chr_pos (L : List UInt8) : (chrL L).pos ≤ L.length := by
  unfold chrL
  split
  · exact Nat.zero_le _
  · cases hp : pieceL L with
    | error e => exact Nat.zero_le _
    | ok p =>
      obtain ⟨l1, l2, l3⟩ := piece_len L p hp
      dsimp only
      split
      · exact Nat.zero_le _
      · split
        · rename_i h
          have := len_of_hd L 39 _ h (by omega)
          exact this
        · exact l2
theorem txt_pos : ∀ (f : Nat) (L : List UInt8), (txtL f L).pos ≤ L.length
  | 0, _ => Nat.zero_le _
  | f + 1, L => by
    unfold txtL
    split
    · rename_i h
      have := len_of_hd L 34 0 h (by omega)
      exact this
    · cases hp : pieceL L with
      | error e => exact Nat.zero_le _
      | ok p =>
        obtain ⟨l1, l2, l3⟩ := piece_len L p hp
        have := txt_pos f (L.drop p.bytes.length)
        rw [List.length_drop] at this
        dsimp only
        omega
section
variable {s : ByteArray} {at0 : Nat} {tot : List Pc} {K : FuncId} {cap : Array Value} {B : Nat} {V : List Pc → World → Prop} {O : World → Nat → Prop}
/-- The three cells of read's results, new. -/
theorem Vis.three (vis : Vis s at0 tot K cap B V O) {acc : List Pc} {w : World} (h : V acc w) :
    V acc (((w.alloc (.cells #[.int .i64 0] 3)).alloc (.cells #[.int .i64 0] 3)).alloc (.cells #[.int .i64 0] 25)) ∧ Kept B O w (((w.alloc (.cells #[.int .i64 0] 3)).alloc (.cells #[.int .i64 0] 3)).alloc (.cells #[.int .i64 0] 25)) ∧
    One (((w.alloc (.cells #[.int .i64 0] 3)).alloc (.cells #[.int .i64 0] 3)).alloc (.cells #[.int .i64 0] 25)) w.heap.size (.int .i64 0) 3 ∧ One (((w.alloc (.cells #[.int .i64 0] 3)).alloc (.cells #[.int .i64 0] 3)).alloc (.cells #[.int .i64 0] 25)) (w.heap.size + 1) (.int .i64 0) 3 ∧ One (((w.alloc (.cells #[.int .i64 0] 3)).alloc (.cells #[.int .i64 0] 3)).alloc (.cells #[.int .i64 0] 25)) (w.heap.size + 1 + 1) (.int .i64 0) 25 ∧
    ¬ O (((w.alloc (.cells #[.int .i64 0] 3)).alloc (.cells #[.int .i64 0] 3)).alloc (.cells #[.int .i64 0] 25)) w.heap.size ∧ ¬ O (((w.alloc (.cells #[.int .i64 0] 3)).alloc (.cells #[.int .i64 0] 3)).alloc (.cells #[.int .i64 0] 25)) (w.heap.size + 1) ∧ ¬ O (((w.alloc (.cells #[.int .i64 0] 3)).alloc (.cells #[.int .i64 0] 3)).alloc (.cells #[.int .i64 0] 25)) (w.heap.size + 1 + 1) ∧ (((w.alloc (.cells #[.int .i64 0] 3)).alloc (.cells #[.int .i64 0] 3)).alloc (.cells #[.int .i64 0] 25)).heap.size = w.heap.size + 1 + 1 + 1 := by
  obtain ⟨h1, k1⟩ := vis.kept h ((Below.refl _ w).alloc (Nat.le_refl _) (.cells #[.int .i64 0] 3))
  have f1 := vis.fresh acc w #[.int .i64 0] 3 (0, 0) h (by decide)
  have z1 : (w.alloc (.cells #[.int .i64 0] 3)).heap.size = w.heap.size + 1 := World.size_alloc _ _
  have o1 := One.new w (.int .i64 0) 3
  generalize w.alloc (.cells #[.int .i64 0] 3) = w1 at *
  have b2 := (Below.refl w1.heap.size w1).alloc (Nat.le_refl _) (.cells #[.int .i64 0] 3)
  obtain ⟨h2, k2⟩ := vis.kept h1 b2
  have f2 := vis.fresh acc w1 #[.int .i64 0] 3 (0, 0) h1 (by decide)
  have z2 : (w1.alloc (.cells #[.int .i64 0] 3)).heap.size = w1.heap.size + 1 := World.size_alloc _ _
  have o2 := One.new w1 (.int .i64 0) 3
  have g1 := (k2.same _ (by omega) f1).2
  have p1 := o1.below b2 (by omega)
  generalize w1.alloc (.cells #[.int .i64 0] 3) = w2 at *
  have b3 := (Below.refl w2.heap.size w2).alloc (Nat.le_refl _) (.cells #[.int .i64 0] 25)
  obtain ⟨h3, k3⟩ := vis.kept h2 b3
  have f3 := vis.fresh acc w2 #[.int .i64 0] 25 (0, 0) h2 (by decide)
  have z3 : (w2.alloc (.cells #[.int .i64 0] 25)).heap.size = w2.heap.size + 1 := World.size_alloc _ _
  have o3 := One.new w2 (.int .i64 0) 25
  have e1 := (k3.same _ (by omega) g1).2
  have e2 := (k3.same _ (by omega) f2).2
  have q1 := p1.below b3 (by omega)
  have q2 := o2.below b3 (by omega)
  rw [z1] at e2 q2 z2
  rw [z2] at f3 o3 z3
  exact ⟨h3, (k1.trans k2).trans k3, q1, q2, o3, e1, e2, f3, z3⟩
theorem One.same {w w' : World} {g : Nat} {v : Value} {t : TypeId} (h : One w g v t) (k : Kept B O w w') (ho : ¬ O w g) : One w' g v t ∧ ¬ O w' g := by
  obtain ⟨h1, h2⟩ := k.same g h.lt ho
  exact ⟨h1.trans h, h2⟩
/-- Three stores into read's cells. -/
theorem Vis.stores (vis : Vis s at0 tot K cap B V O) {acc : List Pc} {w : World} (h : V acc w) (a b c : Nat) (x0 x1 x2 : Value) (ta tb tc : TypeId) (ha : One w a x0 ta) (hb : One w b x1 tb) (hc : One w c x2 tc) (oa : ¬ O w a) (ob : ¬ O w b) (oc : ¬ O w c) (hab : ¬ a = b) (hac : ¬ a = c) (hbc : ¬ b = c) (ba : B ≤ a) (bb : B ≤ b) (bc : B ≤ c) (y0 y1 y2 : Value) :
    V acc (((w.setCell ⟨a, 0, none⟩ y0).setCell ⟨b, 0, none⟩ y1).setCell ⟨c, 0, none⟩ y2) ∧ One (((w.setCell ⟨a, 0, none⟩ y0).setCell ⟨b, 0, none⟩ y1).setCell ⟨c, 0, none⟩ y2) a y0 ta ∧
    One (((w.setCell ⟨a, 0, none⟩ y0).setCell ⟨b, 0, none⟩ y1).setCell ⟨c, 0, none⟩ y2) b y1 tb ∧ One (((w.setCell ⟨a, 0, none⟩ y0).setCell ⟨b, 0, none⟩ y1).setCell ⟨c, 0, none⟩ y2) c y2 tc := by
  obtain ⟨v1, s1⟩ := vis.set acc w a 0 y0 h ba ha.lt oa
  have hb1 := hb.other (fun e => hab e.symm) y0
  have hc1 := hc.other (fun e => hac e.symm) y0
  obtain ⟨v2, s2⟩ := vis.set acc _ b 0 y1 v1 bb hb1.lt (s1 b ob)
  have hc2 := hc1.other (fun e => hbc e.symm) y1
  obtain ⟨v3, s3⟩ := vis.set acc _ c 0 y2 v2 bc hc2.lt (s2 c (s1 c oc))
  exact ⟨v3, ((ha.put y0).other hab y1).other hac y2, (hb1.put y1).other hbc y2, hc2.put y2⟩

set_option maxHeartbeats 1000000 in
theorem readc_ok (vis : Vis s (at0 + 1) tot K cap B V O) (E : Nat) (hE : E ≤ 1125899906842624) (C0 : Hid (∀ W, Calls Tryz.prog 104 #[.string s, .int .i64 (at0 : Int), .int .u8 39] W fun e w' => e = .returned (.bool true) ∧ W = w')) (ha : at0 < s.size) (hs : s.size ≤ 1125899906842624)
    (C1 : Hid (∀ W, V [] W → Calls Tryz.prog 106 #[.string s, .int .i64 ((at0 : Int) + 1), .func (.func K) #[] cap] W fun e w' => e = .returned (.int .i64 (E : Int)) ∧ Kept B O W w' ∧ V tot w')) (w : World) (hV : V [] w) :
    Calls Tryz.prog 79 #[.string s, .int .i64 (at0 : Int), .func (.func K) #[] cap] w fun e w' => e = .returned (.tuple #[.int .i64 13, .int .i64 (E : Int), .int .i64 0]) ∧ Below B w w' ∧ V tot w' := by
  have hmf : ∀ (fn : Fn) (first cap : Array Value) (w : World), (Instr.makeFunc fn first cap).run Tryz.prog w = .ok (.func fn first cap) w := fun _ _ _ _ => rfl
  obtain ⟨v3, k3, o0, o1, o2, u0, u1, u2, z3⟩ := vis.three hV
  have V3 := Lib.hid v3
  have K3 := Lib.hid k3
  have O0 := Lib.hid o0
  have O1 := Lib.hid o1
  have O2 := Lib.hid o2
  have U0 := Lib.hid u0
  have U1 := Lib.hid u1
  have U2 := Lib.hid u2
  have VS := Lib.hid vis
  have ZB := Lib.hid (vis.size _ _ hV)
  clear v3 k3 o0 o1 o2 u0 u1 u2 vis hV z3
  go_enter_defers Tryz.func79, Tryz.ntmps79
  go_wp2_with fail
  refine (C0.out _).mono ?_
  rintro e w1 ⟨rfl, rfl⟩
  go_wp2_with fail
  refine (C1.out _ V3.out).mono ?_
  rintro e w4 ⟨rfl, k4, v4⟩
  obtain ⟨p0, r0⟩ := O0.out.same k4 U0.out
  obtain ⟨p1, r1⟩ := O1.out.same k4 U1.out
  obtain ⟨p2, r2⟩ := O2.out.same k4 U2.out
  have q0 := p0.c0
  have q1 := p1.c0
  have q2 := p2.c0
  have f0 := p0.free
  have f1 := p1.free
  have f2 := p2.free
  have K4 := Lib.hid (K3.out.trans k4)
  have ST := Lib.hid (VS.out.stores v4 w.heap.size (w.heap.size + 1) (w.heap.size + 1 + 1) _ _ _ _ _ _ p0 p1 p2 r0 r1 r2 (by omega) (by omega) (by omega) ZB.out (by have := ZB.out; omega) (by have := ZB.out; omega) (.int .i64 13) (.int .i64 (E : Int)) (.int .i64 0))
  clear k4 v4 p0 p1 p2 r0 r1 r2
  go_wp2_with fail
  refine leaves_cons (f := 105) (args := #[.pointer (some ⟨w.heap.size, 0, none⟩), .pointer (some ⟨w.heap.size + 1, 0, none⟩), .pointer (some ⟨w.heap.size + 1 + 1, 0, none⟩)]) (by simp) (by simp [go_sem]) ?_
  refine (catch_idle w.heap.size (w.heap.size + 1) (w.heap.size + 1 + 1) _).mono ?_
  rintro e u' w6 ⟨rfl, rfl, hb6⟩
  obtain ⟨v5, s0, s1, s2⟩ := ST.out
  have t0 := (s0.below hb6 s0.lt).c0
  have t1 := (s1.below hb6 s1.lt).c0
  have t2 := (s2.below hb6 s2.lt).c0
  have hB := ZB.out
  have b5 : Below B w (((w4.setCell ⟨w.heap.size, 0, none⟩ (.int .i64 13)).setCell ⟨w.heap.size + 1, 0, none⟩ (.int .i64 (E : Int))).setCell ⟨w.heap.size + 1 + 1, 0, none⟩ (.int .i64 0)) :=
    ((K4.out.below.setCell (p := ⟨w.heap.size, 0, none⟩) (by show B ≤ w.heap.size; omega) _).setCell (p := ⟨w.heap.size + 1, 0, none⟩) (by show B ≤ w.heap.size + 1; omega) _).setCell (p := ⟨w.heap.size + 1 + 1, 0, none⟩) (by show B ≤ w.heap.size + 1 + 1; omega) _
  have b6 := b5.trans (hb6.mono (Nat.le_trans hB b5.size))
  have v6 := (VS.out.keep _ _ _ v5 hb6).1
  clear q0 q1 q2 f0 f1 f2
  simp [Leaves, settle, results, Tryz.results79, go_sem, t0, t1, t2, b6, v6]
set_option maxHeartbeats 1000000 in
theorem readc_bad (vis : Vis s (at0 + 1) tot K cap B V O) (k : Nat) (x : Int) (C0 : Hid (∀ W, Calls Tryz.prog 104 #[.string s, .int .i64 (at0 : Int), .int .u8 39] W fun e w' => e = .returned (.bool true) ∧ W = w')) (ha : at0 < s.size) (hs : s.size ≤ 1125899906842624)
    (C1 : Hid (∀ W, V [] W → Calls Tryz.prog 106 #[.string s, .int .i64 ((at0 : Int) + 1), .func (.func K) #[] cap] W fun e w' => e = .panicked [{ v := fltV k x, recovered := false }] ∧ Kept B O W w')) (w : World) (hV : V [] w) :
    Calls Tryz.prog 79 #[.string s, .int .i64 (at0 : Int), .func (.func K) #[] cap] w fun e w' => e = .returned (.tuple #[.int .i64 0, .int .i64 (k : Int), .int .i64 x]) ∧ Below B w w' := by
  have hmf : ∀ (fn : Fn) (first cap : Array Value) (w : World), (Instr.makeFunc fn first cap).run Tryz.prog w = .ok (.func fn first cap) w := fun _ _ _ _ => rfl
  obtain ⟨v3, k3, o0, o1, o2, u0, u1, u2, z3⟩ := vis.three hV
  have V3 := Lib.hid v3
  have K3 := Lib.hid k3
  have O0 := Lib.hid o0
  have O1 := Lib.hid o1
  have O2 := Lib.hid o2
  have U0 := Lib.hid u0
  have U1 := Lib.hid u1
  have U2 := Lib.hid u2
  have ZB := Lib.hid (vis.size _ _ hV)
  clear v3 k3 o0 o1 o2 u0 u1 u2 vis hV z3
  go_enter_defers Tryz.func79, Tryz.ntmps79
  go_wp2_with fail
  refine (C0.out _).mono ?_
  rintro e w1 ⟨rfl, rfl⟩
  go_wp2_with fail
  refine (C1.out _ V3.out).mono ?_
  rintro e w4 ⟨rfl, k4⟩
  obtain ⟨p0, r0⟩ := O0.out.same k4 U0.out
  obtain ⟨p1, r1⟩ := O1.out.same k4 U1.out
  obtain ⟨p2, r2⟩ := O2.out.same k4 U2.out
  have P0 := Lib.hid p0
  have P1 := Lib.hid p1
  have P2 := Lib.hid p2
  have K4 := Lib.hid (K3.out.trans k4)
  clear k4 p0 p1 p2 r0 r1 r2
  try go_wp2_with fail
  refine leaves_cons (f := 105) (args := #[.pointer (some ⟨w.heap.size, 0, none⟩), .pointer (some ⟨w.heap.size + 1, 0, none⟩), .pointer (some ⟨w.heap.size + 1 + 1, 0, none⟩)]) (by simp) (by simp [go_sem]) ?_
  refine (catch_fault w.heap.size (w.heap.size + 1) (w.heap.size + 1 + 1) _ _ _ k x [] _ P0.out P1.out P2.out (by omega) (by omega) B ZB.out).mono ?_
  rintro e u' w6 ⟨rfl, rfl, hb6, s0, s1, s2⟩
  have t0 := s0.c0
  have t1 := s1.c0
  have t2 := s2.c0
  have b6 := K4.out.below.trans hb6
  simp [Leaves, settle, results, Tryz.results79, go_sem, t0, t1, t2, b6]

set_option maxHeartbeats 1000000 in
theorem readt_ok (vis : Vis s (at0 + 1) tot K cap B V O) (E : Nat) (hE : E ≤ 1125899906842624) (C0 : Hid (∀ W, Calls Tryz.prog 104 #[.string s, .int .i64 (at0 : Int), .int .u8 39] W fun e w' => e = .returned (.bool false) ∧ W = w')) (ha : at0 < s.size) (hs : s.size ≤ 1125899906842624)
    (C1 : Hid (∀ W, V [] W → Calls Tryz.prog 107 #[.string s, .int .i64 ((at0 : Int) + 1), .func (.func K) #[] cap] W fun e w' => e = .returned (.int .i64 (E : Int)) ∧ Kept B O W w' ∧ V tot w')) (w : World) (hV : V [] w) :
    Calls Tryz.prog 79 #[.string s, .int .i64 (at0 : Int), .func (.func K) #[] cap] w fun e w' => e = .returned (.tuple #[.int .i64 14, .int .i64 (E : Int), .int .i64 0]) ∧ Below B w w' ∧ V tot w' := by
  have hmf : ∀ (fn : Fn) (first cap : Array Value) (w : World), (Instr.makeFunc fn first cap).run Tryz.prog w = .ok (.func fn first cap) w := fun _ _ _ _ => rfl
  obtain ⟨v3, k3, o0, o1, o2, u0, u1, u2, z3⟩ := vis.three hV
  have V3 := Lib.hid v3
  have K3 := Lib.hid k3
  have O0 := Lib.hid o0
  have O1 := Lib.hid o1
  have O2 := Lib.hid o2
  have U0 := Lib.hid u0
  have U1 := Lib.hid u1
  have U2 := Lib.hid u2
  have VS := Lib.hid vis
  have ZB := Lib.hid (vis.size _ _ hV)
  clear v3 k3 o0 o1 o2 u0 u1 u2 vis hV z3
  go_enter_defers Tryz.func79, Tryz.ntmps79
  go_wp2_with fail
  refine (C0.out _).mono ?_
  rintro e w1 ⟨rfl, rfl⟩
  go_wp2_with fail
  refine (C1.out _ V3.out).mono ?_
  rintro e w4 ⟨rfl, k4, v4⟩
  obtain ⟨p0, r0⟩ := O0.out.same k4 U0.out
  obtain ⟨p1, r1⟩ := O1.out.same k4 U1.out
  obtain ⟨p2, r2⟩ := O2.out.same k4 U2.out
  have q0 := p0.c0
  have q1 := p1.c0
  have q2 := p2.c0
  have f0 := p0.free
  have f1 := p1.free
  have f2 := p2.free
  have K4 := Lib.hid (K3.out.trans k4)
  have ST := Lib.hid (VS.out.stores v4 w.heap.size (w.heap.size + 1) (w.heap.size + 1 + 1) _ _ _ _ _ _ p0 p1 p2 r0 r1 r2 (by omega) (by omega) (by omega) ZB.out (by have := ZB.out; omega) (by have := ZB.out; omega) (.int .i64 14) (.int .i64 (E : Int)) (.int .i64 0))
  clear k4 v4 p0 p1 p2 r0 r1 r2
  go_wp2_with fail
  refine leaves_cons (f := 105) (args := #[.pointer (some ⟨w.heap.size, 0, none⟩), .pointer (some ⟨w.heap.size + 1, 0, none⟩), .pointer (some ⟨w.heap.size + 1 + 1, 0, none⟩)]) (by simp) (by simp [go_sem]) ?_
  refine (catch_idle w.heap.size (w.heap.size + 1) (w.heap.size + 1 + 1) _).mono ?_
  rintro e u' w6 ⟨rfl, rfl, hb6⟩
  obtain ⟨v5, s0, s1, s2⟩ := ST.out
  have t0 := (s0.below hb6 s0.lt).c0
  have t1 := (s1.below hb6 s1.lt).c0
  have t2 := (s2.below hb6 s2.lt).c0
  have hB := ZB.out
  have b5 : Below B w (((w4.setCell ⟨w.heap.size, 0, none⟩ (.int .i64 14)).setCell ⟨w.heap.size + 1, 0, none⟩ (.int .i64 (E : Int))).setCell ⟨w.heap.size + 1 + 1, 0, none⟩ (.int .i64 0)) :=
    ((K4.out.below.setCell (p := ⟨w.heap.size, 0, none⟩) (by show B ≤ w.heap.size; omega) _).setCell (p := ⟨w.heap.size + 1, 0, none⟩) (by show B ≤ w.heap.size + 1; omega) _).setCell (p := ⟨w.heap.size + 1 + 1, 0, none⟩) (by show B ≤ w.heap.size + 1 + 1; omega) _
  have b6 := b5.trans (hb6.mono (Nat.le_trans hB b5.size))
  have v6 := (VS.out.keep _ _ _ v5 hb6).1
  clear q0 q1 q2 f0 f1 f2
  simp [Leaves, settle, results, Tryz.results79, go_sem, t0, t1, t2, b6, v6]
set_option maxHeartbeats 1000000 in
theorem readt_bad (vis : Vis s (at0 + 1) tot K cap B V O) (k : Nat) (x : Int) (C0 : Hid (∀ W, Calls Tryz.prog 104 #[.string s, .int .i64 (at0 : Int), .int .u8 39] W fun e w' => e = .returned (.bool false) ∧ W = w')) (ha : at0 < s.size) (hs : s.size ≤ 1125899906842624)
    (C1 : Hid (∀ W, V [] W → Calls Tryz.prog 107 #[.string s, .int .i64 ((at0 : Int) + 1), .func (.func K) #[] cap] W fun e w' => e = .panicked [{ v := fltV k x, recovered := false }] ∧ Kept B O W w')) (w : World) (hV : V [] w) :
    Calls Tryz.prog 79 #[.string s, .int .i64 (at0 : Int), .func (.func K) #[] cap] w fun e w' => e = .returned (.tuple #[.int .i64 0, .int .i64 (k : Int), .int .i64 x]) ∧ Below B w w' := by
  have hmf : ∀ (fn : Fn) (first cap : Array Value) (w : World), (Instr.makeFunc fn first cap).run Tryz.prog w = .ok (.func fn first cap) w := fun _ _ _ _ => rfl
  obtain ⟨v3, k3, o0, o1, o2, u0, u1, u2, z3⟩ := vis.three hV
  have V3 := Lib.hid v3
  have K3 := Lib.hid k3
  have O0 := Lib.hid o0
  have O1 := Lib.hid o1
  have O2 := Lib.hid o2
  have U0 := Lib.hid u0
  have U1 := Lib.hid u1
  have U2 := Lib.hid u2
  have ZB := Lib.hid (vis.size _ _ hV)
  clear v3 k3 o0 o1 o2 u0 u1 u2 vis hV z3
  go_enter_defers Tryz.func79, Tryz.ntmps79
  go_wp2_with fail
  refine (C0.out _).mono ?_
  rintro e w1 ⟨rfl, rfl⟩
  go_wp2_with fail
  refine (C1.out _ V3.out).mono ?_
  rintro e w4 ⟨rfl, k4⟩
  obtain ⟨p0, r0⟩ := O0.out.same k4 U0.out
  obtain ⟨p1, r1⟩ := O1.out.same k4 U1.out
  obtain ⟨p2, r2⟩ := O2.out.same k4 U2.out
  have P0 := Lib.hid p0
  have P1 := Lib.hid p1
  have P2 := Lib.hid p2
  have K4 := Lib.hid (K3.out.trans k4)
  clear k4 p0 p1 p2 r0 r1 r2
  try go_wp2_with fail
  refine leaves_cons (f := 105) (args := #[.pointer (some ⟨w.heap.size, 0, none⟩), .pointer (some ⟨w.heap.size + 1, 0, none⟩), .pointer (some ⟨w.heap.size + 1 + 1, 0, none⟩)]) (by simp) (by simp [go_sem]) ?_
  refine (catch_fault w.heap.size (w.heap.size + 1) (w.heap.size + 1 + 1) _ _ _ k x [] _ P0.out P1.out P2.out (by omega) (by omega) B ZB.out).mono ?_
  rintro e u' w6 ⟨rfl, rfl, hb6, s0, s1, s2⟩
  have t0 := s0.c0
  have t1 := s1.c0
  have t2 := s2.c0
  have b6 := K4.out.below.trans hb6
  simp [Leaves, settle, results, Tryz.results79, go_sem, t0, t1, t2, b6]

/-- read: what it answers of a row that begins with a quote. -/
def kindQ (L : List UInt8) : Int := if (readL L).err = 0 then (if hd L = 39 then 13 else 14) else 0
theorem read_any {n : Nat} (vis : Vis s (n + 1) (readL (rest s n)).ps K cap B V O) (hs : s.size ≤ 1125899906842624) (hn : n < s.size) (w : World) (hV : V [] w) :
    Calls Tryz.prog 79 #[.string s, .int .i64 (n : Int), .func (.func K) #[] cap] w fun e w' => e = .returned (.tuple #[.int .i64 (kindQ (rest s n)), .int .i64 ((n + 1 + (readL (rest s n)).pos : Nat) : Int), .int .i64 (readL (rest s n)).err]) ∧ Below B w w' ∧ ((readL (rest s n)).err = 0 → V (readL (rest s n)).ps w') := by
  have c0 := fun W => stands_at s n 39 (by omega) hs W
  have hsz : ((n : Int) + 1) = ((n + 1 : Nat) : Int) := by omega
  have hlen := rest_len s n
  by_cases q : hd (rest s n) = 39
  · rw [show (hd (rest s n) == 39) = true from beq_iff_eq.2 q] at c0
    have hr : readL (rest s n) = chrL (rest s (n + 1)) := by unfold readL; rw [if_pos q, rest_drop]
    have hk : kindQ (rest s n) = if (readL (rest s n)).err = 0 then 13 else 0 := by unfold kindQ; rw [if_pos q]
    have c1 : ∀ W, V [] W → _ := fun W h => charEnd_any vis hs (by omega) (by rw [hr]) W h
    rw [← hr] at c1
    have hpos := chr_pos (rest s (n + 1))
    rw [← hr, rest_len] at hpos
    rw [hk]
    generalize readL (rest s n) = R at *
    by_cases h0 : R.err = 0
    · rw [if_pos h0, h0]
      refine (readc_ok vis (n + 1 + R.pos) (by omega) c0 hn hs (fun W h => ?_) w hV).mono ?_
      · rw [hsz]
        refine (c1 W h).mono ?_
        rintro e w' ⟨h1, h2, h3⟩
        unfold Ends at h1
        rw [if_pos h0] at h1
        exact ⟨h1, h2, h3 h0⟩
      · rintro e w' ⟨h1, h2, h3⟩
        exact ⟨h1, h2, fun _ => h3⟩
    · rw [if_neg h0]
      refine (readc_bad vis (n + 1 + R.pos) R.err c0 hn hs (fun W h => ?_) w hV).mono ?_
      · rw [hsz]
        refine (c1 W h).mono ?_
        rintro e w' ⟨h1, h2, h3⟩
        unfold Ends at h1
        rw [if_neg h0] at h1
        exact ⟨h1, h2⟩
      · rintro e w' ⟨h1, h2⟩
        exact ⟨h1, h2, fun h => absurd h h0⟩
  · rw [show (hd (rest s n) == 39) = false from beq_eq_false_iff_ne.2 q] at c0
    have hr : readL (rest s n) = txtL (rest s n).length (rest s (n + 1)) := by unfold readL; rw [if_neg q, rest_drop]
    have hk : kindQ (rest s n) = if (readL (rest s n)).err = 0 then 14 else 0 := by unfold kindQ; rw [if_neg q]
    have c1 : ∀ W, V [] W → _ := fun W h => textEnd_any vis hs (by omega) (rest s n).length (by omega) (by rw [hr]) W h
    rw [← hr] at c1
    have hpos := txt_pos (rest s n).length (rest s (n + 1))
    rw [← hr, rest_len] at hpos
    rw [hk]
    generalize readL (rest s n) = R at *
    by_cases h0 : R.err = 0
    · rw [if_pos h0, h0]
      refine (readt_ok vis (n + 1 + R.pos) (by omega) c0 hn hs (fun W h => ?_) w hV).mono ?_
      · rw [hsz]
        refine (c1 W h).mono ?_
        rintro e w' ⟨h1, h2, h3⟩
        unfold Ends at h1
        rw [if_pos h0] at h1
        exact ⟨h1, h2, h3 h0⟩
      · rintro e w' ⟨h1, h2, h3⟩
        exact ⟨h1, h2, fun _ => h3⟩
    · rw [if_neg h0]
      refine (readt_bad vis (n + 1 + R.pos) R.err c0 hn hs (fun W h => ?_) w hV).mono ?_
      · rw [hsz]
        refine (c1 W h).mono ?_
        rintro e w' ⟨h1, h2, h3⟩
        unfold Ends at h1
        rw [if_neg h0] at h1
        exact ⟨h1, h2⟩
      · rintro e w' ⟨h1, h2⟩
        exact ⟨h1, h2, fun h => absurd h h0⟩
end
end Go.Proofs.YtmgclgojmckfhaaGreatDoor.Qt
/-
  The contracts of package quote's Scan and readWhole (whatever visits). Conditions: the string has at most 2^50 bytes; the program's list of names stands.
-/
namespace Go.Proofs.YtmgclgojmckfhaaGreatDoor.Qt
open Go.RowKit Gly
open Wrd (rn wd)
set_option linter.unusedSimpArgs false
set_option linter.unusedVariables false

theorem grown_of_below {w w' : World} (h : Below w.heap.size w w') : w.grownBy w' none := ⟨h.os, h.tape, h.output, h.size, fun k hk _ => h.block k hk⟩
theorem grown_set (w : World) (j i : Nat) (v : Value) : w.grownBy (w.setCell ⟨j, i, none⟩ v) (some j) := ⟨rfl, rfl, rfl, by simp, fun k _ hk => heap_setCell_other w ⟨j, i, none⟩ k v (fun e => hk (by simp [e]))⟩

/-- Who visits nothing. -/
theorem vis_scan (s : ByteArray) (at0 : Nat) (tot : List Pc) (w0 : World) (hN : Nam w0) : Vis s at0 tot 80 #[] w0.heap.size (fun _ w => Below w0.heap.size w0 w) (fun _ _ => False) where
  enter := enters_of Tryz.func80 (by kernel_rfl) rfl
  nam := fun _ w h => hN.below h (Nat.le_refl _)
  size := fun _ w h => h.size
  keep := fun _ w w' h hb => ⟨h.trans (hb.mono h.size), fun _ _ h => h⟩
  fresh := fun _ _ _ _ _ _ _ h => h
  set := fun _ w j i v h hj _ _ => ⟨h.setCell (p := ⟨j, i, none⟩) hj v, fun _ h => h⟩
  step := fun acc p w h _ _ => by
    have HB := Lib.hid h
    clear h
    generalize at0 + (flat acc).length = n
    unfold pcV pcC
    simp only [Array.append_empty]
    go_enter Tryz.func80, Tryz.ntmps80
    go_wp2
    go_end0
    have hb : Below w.heap.size w (w.alloc (.cells #[.int .i64 (p.form : Int), .int .i64 (p.num : Int), .int .i64 (n : Int), .int .i64 ((n + p.bytes.length : Nat) : Int)] 117)) := (Below.refl _ _).alloc (Nat.le_refl _) _
    exact ⟨rfl, HB.out.trans (hb.mono HB.out.size), hb.mono HB.out.size, fun j hj _ => ⟨hb.block j hj, id⟩⟩

/-- Scan's answers. -/
def scanI (s : ByteArray) (i : Int) : Int × Int × Int := if 0 ≤ i then scanL i.toNat (rest s i.toNat) else (0, 0, 0)
theorem scan_no (s : ByteArray) (i : Int) (hs : s.size ≤ 1125899906842624) (hq : (hdI s i == 34 || hdI s i == 39) = false) (w : World) :
    Calls Tryz.prog 61 #[.string s, .int .i64 i] w fun e w' => e = .returned (.tuple #[.int .i64 0, .int .i64 0, .int .i64 0]) ∧ w = w' := by
  have c0 := fun W => quoteAt_any s i hs W
  rw [hq] at c0
  have C0 := Lib.hid c0
  clear c0
  go_enter Tryz.func61, Tryz.ntmps61
  go_wp2_with fail
  refine (C0.out _).mono ?_
  rintro e w1 ⟨rfl, rfl⟩
  go_wp2_with fail
  go_ret3
  exact ⟨rfl, rfl⟩
theorem Scan_any (s : ByteArray) (i : Int) (hs : s.size ≤ 1125899906842624) (w : World) (hN : Nam w) :
    Calls Tryz.prog 61 #[.string s, .int .i64 i] w fun e w' => e = .returned (.tuple #[.int .i64 (scanI s i).1, .int .i64 (scanI s i).2.1, .int .i64 (scanI s i).2.2]) ∧ Below w.heap.size w w' := by
  cases hq : (hdI s i == 34 || hdI s i == 39) with
  | false =>
    have e : scanI s i = (0, 0, 0) := by
      unfold scanI
      split
      · rename_i h0
        unfold scanL quoted
        unfold hdI at hq
        rw [if_pos h0] at hq
        rw [hq]
        rfl
      · rfl
    rw [e]
    refine (scan_no s i hs hq w).mono ?_
    rintro e w' ⟨rfl, rfl⟩
    exact ⟨rfl, Below.refl _ _⟩
  | true =>
    have c0 := fun W => quoteAt_any s i hs W
    rw [hq] at c0
    have h0 : 0 ≤ i := by
      rcases Int.lt_or_le i 0 with h | h
      · unfold hdI at hq
        rw [if_neg (by omega)] at hq
        exact absurd hq (by decide)
      · exact h
    obtain ⟨n, rfl⟩ := Int.eq_ofNat_of_zero_le h0
    rw [hdI_nat] at hq
    have hn : n < s.size := by
      rcases Nat.lt_or_ge n s.size with h | h
      · exact h
      · rw [hd_rest_out s n h] at hq
        exact absurd hq (by decide)
    have e : scanI s (n : Int) = (kindQ (rest s n), ((n + 1 + (readL (rest s n)).pos : Nat) : Int), (readL (rest s n)).err) := by
      unfold scanI scanL
      rw [if_pos h0, Int.toNat_natCast, if_pos (show quoted (rest s n) = true from hq)]
      rfl
    rw [e]
    have c1 := read_any (vis_scan s (n + 1) (readL (rest s n)).ps w hN) hs hn w (Below.refl _ _)
    dsimp only
    generalize kindQ (rest s n) = k at *
    generalize ((n + 1 + (readL (rest s n)).pos : Nat) : Int) = E at *
    generalize (readL (rest s n)).err = x at *
    have C0 := Lib.hid c0
    have C1 := Lib.hid c1
    clear c0 c1 e hN hq h0
    go_enter Tryz.func61, Tryz.ntmps61
    go_wp2_with fail
    refine (C0.out _).mono ?_
    rintro e w1 ⟨rfl, rfl⟩
    go_wp2_with fail
    refine C1.out.mono ?_
    rintro e w2 ⟨rfl, hb2, -⟩
    have HB2 := Lib.hid hb2
    clear hb2
    go_wp2_with fail
    go_ret3
    exact ⟨rfl, HB2.out⟩

section
variable {s : ByteArray} {K : FuncId} {cap : Array Value} {B : Nat} {V : List Pc → World → Prop} {O : World → Nat → Prop}
end
end Go.Proofs.YtmgclgojmckfhaaGreatDoor.Qt
/-
  The contract of package quote's Runes: the numbers of the characters, in memory of the call's own. Conditions: the string has at most 2^50 bytes; the numbers take at most 2^47 bytes; the program's list of names stands.
-/
namespace Go.Proofs.YtmgclgojmckfhaaGreatDoor.Qt
open Go.RowKit Gly
open Wrd (rn wd)
set_option linter.unusedSimpArgs false
set_option linter.unusedVariables false

def intC (xs : List Nat) : List Value := xs.map fun (x : Nat) => Value.int .i64 (x : Int)
/-- A row of numbers in memory of the call's own. -/
def Ints (w : World) (B : Nat) (v : Value) (xs : List Nat) : Prop := w.ownsRow B 3 1 v xs.length (intC xs)
theorem Ints.push {w : World} {B : Nat} {v : Value} {xs : List Nat} {x : Nat} (h : w.ownsRow B 3 1 v (xs.length + 1) (intC xs ++ [.int .i64 (x : Int)])) : Ints w B v (xs ++ [x]) := by
  unfold Ints
  rw [List.length_append]
  have : intC (xs ++ [x]) = intC xs ++ [.int .i64 (x : Int)] := by simp [intC]
  rw [this]
  exact h
theorem Ints.kept {w w' : World} {B : Nat} {v : Value} {xs : List Nat} {row : Option Nat} (h : Ints w B v xs) (hg : w.grownBy w' row) (hne : v.ownBlock = none ∨ v.ownBlock ≠ row) : Ints w' B v xs := World.ownsRow.kept h hg hne
theorem Ints.shape {w : World} {B : Nat} {v : Value} {xs : List Nat} (h : Ints w B v xs) : (v = .slice none 0 0 ∧ xs = []) ∨ ∃ g cap, v = .slice (some ⟨g, 0, none⟩) xs.length cap ∧ B ≤ g ∧ g < w.heap.size := by
  rcases h.2 with ⟨rfl, h0⟩ | ⟨g, cap, cur, rfl, hb, hg, _⟩
  · exact .inl ⟨rfl, List.eq_nil_of_length_eq_zero h0⟩
  · exact .inr ⟨g, cap, rfl, hb, lt_of_block hg⟩
theorem Ints.at' {w : World} {B g n cap : Nat} {xs : List Nat} (h : w.ownsRow B 3 1 (.slice (some ⟨g, 0, none⟩) n cap) n (intC xs)) (k : Nat) (hk : k < n) (hx : k < xs.length) : w.cell? ⟨g, k, none⟩ = some (.int .i64 ((xs[k] : Nat) : Int)) := by
  rw [h.cellAt k (by omega)]
  simp [intC, hx]
theorem grown_trans {a w w' : World} {row row' : Option Nat} (h : a.grownBy w row) (k : w.grownBy w' row') (hr : ∀ j, j < a.heap.size → some j ≠ row → some j ≠ row') : a.grownBy w' row :=
  ⟨k.os.trans h.os, k.tape.trans h.tape, k.output.trans h.output, Nat.le_trans h.size k.size, fun j hj hne => (k.block j (Nat.lt_of_lt_of_le hj h.size) (hr j hj hne)).trans (h.block j hj hne)⟩
theorem Ints.below {w w' : World} {B : Nat} {v : Value} {xs : List Nat} (h : Ints w B v xs) (hb : Below w.heap.size w w') : Ints w' B v xs := by
  rcases h.shape with ⟨rfl, -⟩ | ⟨g, cap, rfl, -, -⟩
  · exact h.kept (grown_of_below hb) (.inl rfl)
  · exact h.kept (grown_of_below hb) (.inr (by simp [Value.ownBlock]))

/-- What Runes' visitor has laid: the variable's block, the row in it. -/
def RunV (w0 : World) (acc : List Pc) (w : World) : Prop := Below w0.heap.size w0 w ∧ ∃ v, One w w0.heap.size v 31 ∧ Ints w (w0.heap.size + 1) v (chs acc)
theorem RunV.new (w0 : World) : RunV w0 [] (w0.alloc (.cells #[.slice none 0 0] 31)) :=
  ⟨(Below.refl _ _).alloc (Nat.le_refl _) _, _, One.new w0 _ _, World.ownsRow_nil _ _ _ _⟩
end Go.Proofs.YtmgclgojmckfhaaGreatDoor.Qt
/-
  The contract of package quote's Plain. Conditions: the string has at most 2^46 bytes; the program's list of names stands.
-/
namespace Go.Proofs.YtmgclgojmckfhaaGreatDoor.Qt
open Go.RowKit Gly
open Wrd (rn wd)
set_option linter.unusedSimpArgs false
set_option linter.unusedVariables false

/-- What Plain's visitor has laid: the text in a variable, the builder, how far it is. -/
def PlnV (s : ByteArray) (w0 : World) (acc : List Pc) (w : World) : Prop :=
  Below w0.heap.size w0 w ∧ One w w0.heap.size (.string s) 9 ∧ ∃ (d : Nat) (bs : List UInt8), One w (w0.heap.size + 2) (.int .i64 (d : Int)) 3 ∧ Bld w0.heap.size (w0.heap.size + 1) bs w ∧
    d ≤ 1 + (flat acc).length ∧ 1 + (flat acc).length ≤ s.size ∧ bs ++ (rest s d).take (1 + (flat acc).length - d) = (rest s 0).take 1 ++ flat (acc.map narrow) ∧ (flat (acc.map narrow)).length ≤ (flat acc).length
theorem Bld.lt {B b : Nat} {bs : List UInt8} {w : World} (h : Bld B b bs w) : b < w.heap.size := by
  rcases h with ⟨_, v, hb, _⟩ | ⟨_, v, hb, _⟩ <;> exact lt_of_block hb
theorem Bld.below {B b : Nat} {bs : List UInt8} {w w' : World} (h : Bld B b bs w) (hb : Below w.heap.size w w') : Bld B b bs w' := builder_below h hb
theorem Bld.new (w : World) : Bld w.heap.size w.heap.size [] (w.alloc (.cells #[.pointer none, .slice none 0 0] 71)) := Lib.IsBuilderF.of (Lib.fresh_isBuilder 71 5 w)
theorem Bld.base {B B' b : Nat} {bs : List UInt8} {w : World} (h : Bld B b bs w) (hB : B' ≤ B) : Bld B' b bs w := by
  have key : ∀ p, Lib.BuilderAtF 71 5 B b p (Lib.byteCells bs) w → Lib.BuilderAtF 71 5 B' b p (Lib.byteCells bs) w := by
    rintro p ⟨h1, v, h2, h3, h4⟩
    refine ⟨Nat.le_trans hB h1, v, h2, ⟨h3.1, ?_⟩, h4⟩
    rcases h3.2 with hn | ⟨g, cap, cur, fz, rfl, q1, q2⟩
    · exact .inl hn
    · exact .inr ⟨g, cap, cur, fz, rfl, Nat.le_trans hB q1, q2⟩
  exact h.elim (fun x => .inl (key _ x)) (fun x => .inr (key _ x))
theorem One.others {w w' : World} {g b : Nat} {v : Value} {t : TypeId} (h : One w g v t) (hk : Lib.OthersKept 5 (some b) w w') (hg : g ≠ b) (ht : t ≠ 5) : One w' g v t :=
  hk g _ h (fun e => hg (Option.some.inj e)) (fun c fz e => ht (by injection e))

theorem PlnV.new (s : ByteArray) (h0 : 1 ≤ s.size) (w : World) : PlnV s w [] (((w.alloc (.cells #[.string s] 9)).alloc (.cells #[.pointer none, .slice none 0 0] 71)).alloc (.cells #[.int .i64 0] 3)) := by
  have z1 : (w.alloc (.cells #[.string s] 9)).heap.size = w.heap.size + 1 := World.size_alloc _ _
  have o1 := One.new w (.string s) 9
  have b1 := (Below.refl w.heap.size w).alloc (Nat.le_refl _) (.cells #[.string s] 9)
  generalize w.alloc (.cells #[.string s] 9) = w1 at *
  have z2 : (w1.alloc (.cells #[.pointer none, .slice none 0 0] 71)).heap.size = w1.heap.size + 1 := World.size_alloc _ _
  have d2 := Bld.new w1
  have b2 := (Below.refl w1.heap.size w1).alloc (Nat.le_refl _) (.cells #[.pointer none, .slice none 0 0] 71)
  generalize w1.alloc (.cells #[.pointer none, .slice none 0 0] 71) = w2 at *
  have o3 := One.new w2 (.int .i64 0) 3
  have b3 := (Below.refl w2.heap.size w2).alloc (Nat.le_refl _) (.cells #[.int .i64 0] 3)
  generalize w2.alloc (.cells #[.int .i64 0] 3) = w3 at *
  rw [z2, z1] at o3
  rw [z1] at d2
  refine ⟨(b1.trans (b2.mono (by omega))).trans (b3.mono (by omega)), (o1.below b2 o1.lt).below b3 (by omega), 0, [], o3, (d2.base (by omega)).below b3, Nat.zero_le _, h0, ?_, Nat.le_refl _⟩
  simp [flat]
end Go.Proofs.YtmgclgojmckfhaaGreatDoor.Qt
/-
  The contract of package quote's Write. Conditions: the numbers take at most 2^47 - 4096 bytes; the library's table of powers of ten stands.
-/
namespace Go.Proofs.YtmgclgojmckfhaaGreatDoor.Qt
open Go.RowKit Gly
open Go.Lib (decDigits)
set_option linter.unusedSimpArgs false
set_option linter.unusedVariables false

/-- A slice of numbers that is only read. -/
def ArgI (w : World) (v : Value) (zs : List Int) : Prop :=
  (∃ ao cap, v = .slice ao 0 cap ∧ zs = []) ∨ ∃ (b off cap : Nat), v = .slice (some ⟨b, off, none⟩) zs.length cap ∧ b < w.heap.size ∧ ∀ (i : Nat) (z : Int), zs[i]? = some z → w.cell? ⟨b, off + i, none⟩ = some (.int .i64 z)
theorem ArgI.below {w w' : World} {v : Value} {zs : List Int} (h : ArgI w v zs) (hb : Below w.heap.size w w') : ArgI w' v zs := by
  rcases h with h | ⟨b, off, cap, h1, h2, h3⟩
  · exact .inl h
  · exact .inr ⟨b, off, cap, h1, Nat.lt_of_lt_of_le h2 hb.size, fun i z hz => (hb.cell (p := ⟨b, off + i, none⟩) h2).trans (h3 i z hz)⟩
end Go.Proofs.YtmgclgojmckfhaaGreatDoor.Qt
/-
  The contracts of the document's SameInts, and of what the statements of this layer ask first. Conditions: the library's table of powers of ten and the program's list of names stand.
-/
namespace Go.Proofs.YtmgclgojmckfhaaGreatDoor.Qt
open Go.RowKit Gly
set_option linter.unusedSimpArgs false
set_option linter.unusedVariables false

theorem ArgI.len {w : World} {v : Value} {zs : List Int} (h : ArgI w v zs) : ∃ ao cap, v = .slice ao zs.length cap := by
  rcases h with ⟨ao, cap, rfl, rfl⟩ | ⟨b, off, cap, rfl, -, -⟩
  · exact ⟨ao, cap, rfl⟩
  · exact ⟨_, cap, rfl⟩
theorem Ints.arg {w : World} {B : Nat} {v : Value} {xs : List Nat} (h : Ints w B v xs) : ArgI w v (xs.map fun (x : Nat) => (x : Int)) := by
  rcases h.shape with ⟨rfl, rfl⟩ | ⟨g, cap, rfl, hg, hl⟩
  · exact .inl ⟨none, 0, rfl, rfl⟩
  · refine .inr ⟨g, 0, cap, by rw [List.length_map], hl, fun i z hz => ?_⟩
    rw [List.getElem?_map, Option.map_eq_some_iff] at hz
    obtain ⟨x, hx, rfl⟩ := hz
    obtain ⟨hi, hx2⟩ := List.getElem?_eq_some_iff.1 hx
    rw [Nat.zero_add]
    have := Ints.at' h i hi hi
    rw [this, hx2]
end Go.Proofs.YtmgclgojmckfhaaGreatDoor.Qt
/-
  The contracts of the document's own short, number, names, begins, gap. Condition: the string has at most 2^50 bytes.
-/
namespace Go.Proofs.YtmgclgojmckfhaaGreatDoor.Qt
open Go.RowKit Gly
open Wrd (rn wd)
set_option linter.unusedSimpArgs false
set_option linter.unusedVariables false

/-- A block of texts. -/
def Row (w : World) (g : Nat) (L : List (List UInt8)) : Prop := w.heap[g]? = some (.cells (L.map fun x => Value.string ⟨x.toArray⟩).toArray 9 (0, 0))
theorem Row.at_ {w : World} {g : Nat} {L : List (List UInt8)} (h : Row w g L) (k : Nat) (hk : k < L.length) : w.cell? ⟨g, k, none⟩ = some (.string ⟨(L.getD k []).toArray⟩) := by
  rw [cell_of_row w g k _ _ _ h]
  simp [hk]
theorem Row.below {B : Nat} {w w' : World} {g : Nat} {L : List (List UInt8)} (h : Row w g L) (hb : Below B w w') (hg : g < B) : Row w' g L := (hb.block g hg).trans h
end Go.Proofs.YtmgclgojmckfhaaGreatDoor.Qt
/-
  The contracts of the document's own escape and one. Condition: the string has at most 2^50 bytes.
-/
namespace Go.Proofs.YtmgclgojmckfhaaGreatDoor.Qt
open Go.RowKit Gly
open Wrd (rn wd)
set_option linter.unusedSimpArgs false
set_option linter.unusedVariables false

end Go.Proofs.YtmgclgojmckfhaaGreatDoor.Qt
/-
  The contract of the document's own one: what stands at a byte within a literal. Condition: the string has at most 2^50 bytes.
-/
namespace Go.Proofs.YtmgclgojmckfhaaGreatDoor.Qt
open Go.RowKit Gly
open Wrd (rn wd)
set_option linter.unusedSimpArgs false
set_option linter.unusedVariables false

end Go.Proofs.YtmgclgojmckfhaaGreatDoor.Qt
/-
  The contract of the document's own Read. Conditions: the string has at most 2^50 bytes; its characters are at most 2^44.
-/
namespace Go.Proofs.YtmgclgojmckfhaaGreatDoor.Qt
open Go.RowKit Gly
open Wrd (rn wd)
set_option linter.unusedSimpArgs false
set_option linter.unusedVariables false

theorem results_tmp4 {fn : Func} {t u v x : Tmp} (h : fn.results = #[.tmp t, .tmp u, .tmp v, .tmp x]) (tmps : Array Value) (P : Program) (w : World) :
    (results fn tmps).run P w = .ok (.tuple #[tmps.getD t undef, tmps.getD u undef, tmps.getD v undef, tmps.getD x undef]) w := by
  simp [results, h]

end Go.Proofs.YtmgclgojmckfhaaGreatDoor.Qt
/-
  The contracts of the document's own Read (a character, none), Scan, Runes. Conditions: the string has at most 2^50 bytes; its characters are at most 2^44.
-/
namespace Go.Proofs.YtmgclgojmckfhaaGreatDoor.Qt
open Go.RowKit Gly
open Wrd (rn wd)
set_option linter.unusedSimpArgs false
set_option linter.unusedVariables false

end Go.Proofs.YtmgclgojmckfhaaGreatDoor.Qt
/-
  The walks of the statements QuoteAlone and QuoteBack. Conditions: the string of QuoteAlone has at most 2^20 bytes; the numbers of QuoteBack take at most 2^47 - 4096 bytes; the library's table of powers of ten and the program's list of names stand.
-/
namespace Go.Proofs.YtmgclgojmckfhaaGreatDoor.Qt
open Go.RowKit Gly
set_option linter.unusedSimpArgs false
set_option linter.unusedVariables false

theorem scan_cases (s : ByteArray) (i : Int) : (scanI s i).1 = 0 ∨ ∃ n : Nat, i = (n : Int) ∧ n < s.size ∧ quoted (rest s n) = true ∧ (readL (rest s n)).err = 0 ∧ scanI s i = (if hd (rest s n) = 39 then 13 else 14, ((n + 1 + (readL (rest s n)).pos : Nat) : Int), 0) := by
  unfold scanI
  by_cases h0 : 0 ≤ i
  · rw [if_pos h0]
    obtain ⟨n, rfl⟩ := Int.eq_ofNat_of_zero_le h0
    rw [Int.toNat_natCast]
    cases hq : quoted (rest s n) with
    | false =>
      left
      unfold scanL
      rw [if_neg (by rw [hq]; decide)]
    | true =>
      by_cases he : (readL (rest s n)).err = 0
      · right
        refine ⟨n, rfl, ?_, hq, he, ?_⟩
        · rcases Nat.lt_or_ge n s.size with h | h
          · exact h
          · unfold quoted at hq
            rw [hd_rest_out s n h] at hq
            exact absurd hq (by decide)
        · unfold scanL
          rw [if_pos hq, he, if_pos rfl]
      · left
        unfold scanL
        rw [if_pos hq, if_neg he]
  · rw [if_neg h0]
    exact .inl rfl
end Go.Proofs.YtmgclgojmckfhaaGreatDoor.Qt
/-
  The contracts of the document's own Scan and Runes; the walks of QuoteScans and QuoteRunes. Conditions: the string has at most 2^20 bytes; the library's table of powers of ten and the program's list of names stand.
-/
namespace Go.Proofs.YtmgclgojmckfhaaGreatDoor.Qt
open Go.RowKit Gly
open Wrd (rn wd)
set_option linter.unusedSimpArgs false
set_option linter.unusedVariables false

end Go.Proofs.YtmgclgojmckfhaaGreatDoor.Qt
