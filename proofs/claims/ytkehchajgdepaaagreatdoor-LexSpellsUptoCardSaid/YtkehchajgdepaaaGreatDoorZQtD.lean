/-
  The contracts of package quote's read: what is thrown is caught by the deferred function. Conditions: the string has at most 2^50 bytes; the program's list of names stands.
-/
import Derived.Test.YtkehchajgdepaaaGreatDoorZQtC
import Derived.Defers
import Derived.Recover
import Derived.RegionTactic
import Derived.Laws.Pointers
import Derived.Shelf.Abstract
import Derived.OwnWalk
import Derived.Laws.OwnMore
import Derived.Deep.AppendLies
import Derived.ArgAppend
namespace Go.Proofs.YtkehchajgdepaaaGreatDoor.Qt
open Go.RowKit Gly
open Wrd (rn wd)
set_option linter.unusedSimpArgs false
set_option linter.unusedVariables false

/-- A block that holds one value. -/
def One (w : World) (g : Nat) (v : Value) (t : TypeId) : Prop := w.heap[g]? = some (.cells #[v] t (0, 0))
section
variable {w : World} {g : Nat} {v : Value} {t : TypeId}
theorem One.c0 (h : One w g v t) : w.cell? ⟨g, 0, none⟩ = some v := by rw [cell_of_row w g 0 _ _ _ h]; rfl
theorem One.free (h : One w g v t) : w.frozen? ⟨g, 0, none⟩ = false := by unfold One at h; simp [World.frozen?, h]
theorem One.lt (h : One w g v t) : g < w.heap.size := lt_of_block h
theorem One.below {B : Nat} {w' : World} (h : One w g v t) (hb : Below B w w') (hg : g < B) : One w' g v t := (hb.block g hg).trans h
theorem One.new (w : World) (v : Value) (t : TypeId) : One (w.alloc (.cells #[v] t)) w.heap.size v t := heap_alloc_new w _
theorem One.put (h : One w g v t) (v' : Value) : One (w.setCell ⟨g, 0, none⟩ v') g v' t := by
  unfold One at h ⊢
  simp [World.setCell, Array.getElem?_modify, h]
theorem One.other {k : Nat} (h : One w g v t) (hk : g ≠ k) (v' : Value) : One (w.setCell ⟨k, 0, none⟩ v') g v t := by
  unfold One at h ⊢
  have : ¬ k = g := fun e => hk e.symm
  simp [World.setCell, Array.getElem?_modify, h, this]
end

theorem frame20 (p q r u v : Value) : #[p, q, r] ++ ((Array.replicate 17 undef).setIfInBounds 3 u).setIfInBounds 0 v = #[p, q, r, v, undef, undef, u, undef, undef, undef, undef, undef, undef, undef, undef, undef, undef, undef, undef, undef] := by
  apply Array.ext'
  simp [List.replicate]
theorem assert_nil (w : World) : (Instr.typeAssert .nilIface 20 121 true).run Tryz.prog w = .ok (.tuple #[.agg #[.int .i64 0, .int .i64 0], .bool false]) w := by kernel_rfl
theorem assert_fault (v : Value) (w : World) : (Instr.typeAssert (.iface 121 v) 20 121 true).run Tryz.prog w = .ok (.tuple #[v, .bool true]) w := by
  simp [Instr.typeAssert, run_underlying Tryz.underlying121, go_sem]
theorem catch_idle (a b c : Nat) (w : World) :
    CallsD Tryz.prog 122 #[.pointer (some ⟨a, 0, none⟩), .pointer (some ⟨b, 0, none⟩), .pointer (some ⟨c, 0, none⟩)] .returning w fun e u' w' => e = .returned (.tuple #[]) ∧ u' = .returning ∧ Below w.heap.size w w' := by
  refine callsD_of_wpS Tryz.func122 rfl fun c₀ cs hu => ?_
  apply wpS_seq
  apply wpS_region
  simp [wpOpsS, go_sem, recoverD, hu, Tryz.ntmps122, Exit.thenS]
  refine wpS_of_wp ?_
  have HU := Lib.hid hu
  clear hu
  rw [frame20]
  have ta := fun w => assert_nil w
  go_wp2
  have hb : Below w.heap.size w (w.alloc (.cells #[.int .i64 0, .int .i64 0] 121)) := (Below.refl _ _).alloc (Nat.le_refl _) _
  refine ⟨rfl, .returning, ?_, .tuple #[], ?_, rfl, rfl, hb⟩
  · have := HU.out
    cases c₀
    simp_all
  · simp [results, Tryz.results122]
theorem catch_fault (a b c : Nat) (x0 x1 x2 : Value) (n : Nat) (x : Int) (older : List PanicEntry) (w : World) (ha : One w a x0 3) (hb : One w b x1 3) (hc : One w c x2 25) (hab : a < b) (hbc : b < c) (B : Nat) (hB : B ≤ a) :
    CallsD Tryz.prog 122 #[.pointer (some ⟨a, 0, none⟩), .pointer (some ⟨b, 0, none⟩), .pointer (some ⟨c, 0, none⟩)] (.panicking ({ v := fltV n x, recovered := false } :: older)) w fun e u' w' =>
      e = .returned (.tuple #[]) ∧ u' = .panicking ({ v := fltV n x, recovered := true } :: older) ∧ Below B w w' ∧ One w' a (.int .i64 0) 3 ∧ One w' b (.int .i64 (n : Int)) 3 ∧ One w' c (.int .i64 x) 25 := by
  refine callsD_of_wpS Tryz.func122 rfl fun c₀ cs hu => ?_
  unfold fltV at *
  apply wpS_seq
  apply wpS_region
  simp [wpOpsS, go_sem, recoverD, hu, Tryz.ntmps122, Exit.thenS]
  refine wpS_of_wp ?_
  have HU := Lib.hid hu
  clear hu
  rw [frame20]
  have ta := fun w => assert_nil w
  have tb := fun w => assert_fault (.agg #[.int .i64 (n : Int), .int .i64 x]) w
  have hT : Below w.heap.size w (w.alloc (.cells #[.int .i64 (n : Int), .int .i64 x] 121)) := (Below.refl _ _).alloc (Nat.le_refl _) _
  have oa := Lib.hid (ha.below hT ha.lt)
  have ob := Lib.hid (hb.below hT hb.lt)
  have oc := Lib.hid (hc.below hT hc.lt)
  have p1 := oa.out.c0
  have p2 := ob.out.c0
  have p3 := oc.out.c0
  have p4 := oa.out.free
  have p5 := ob.out.free
  have p6 := oc.out.free
  have n1 : ¬ a = b := by omega
  have n2 : ¬ b = a := by omega
  have n3 : ¬ a = c := by omega
  have n4 : ¬ c = a := by omega
  have n5 : ¬ b = c := by omega
  have n6 : ¬ c = b := by omega
  have r1 := ha.c0
  have r2 := hb.c0
  have r3 := hc.c0
  have r4 := ha.free
  have r5 := hb.free
  have r6 := hc.free
  have HA := Lib.hid ha
  have HB' := Lib.hid hb
  have HC := Lib.hid hc
  have m1 := ha.lt
  have m2 := hb.lt
  have m3 := hc.lt
  have HT := Lib.hid hT
  clear ha hb hc hT
  go_wp2
  go_region
  have bw : Below B w ((((w.setCell ⟨a, 0, none⟩ (.int .i64 0)).setCell ⟨b, 0, none⟩ (.int .i64 (n : Int))).setCell ⟨c, 0, none⟩ (.int .i64 x)).alloc (.cells #[.int .i64 (n : Int), .int .i64 x] 121)).drew := by
    refine below_drewN ?_ 1
    refine Below.alloc ?_ (by simp; omega) _
    exact (((Below.refl B w).setCell (p := ⟨a, 0, none⟩) hB _).setCell (p := ⟨b, 0, none⟩) (by show B ≤ b; omega) _).setCell (p := ⟨c, 0, none⟩) (by show B ≤ c; omega) _
  refine ⟨rfl, .panicking ({ v := .iface 121 (.agg #[.int .i64 (n : Int), .int .i64 x]), recovered := true } :: older), ?_, .tuple #[], ?_, rfl, rfl, bw, ?_, ?_, ?_⟩
  · have := HU.out
    cases c₀
    simp_all
  · simp [results, Tryz.results122]
  · have h := ((HA.out.put (.int .i64 0)).other n1 (.int .i64 (n : Int))).other n3 (.int .i64 x)
    exact (((Below.refl _ _).alloc (Nat.le_refl _) _).block a h.lt).trans h
  · have h := ((HB'.out.other n2 (.int .i64 0)).put (.int .i64 (n : Int))).other n5 (.int .i64 x)
    exact (((Below.refl _ _).alloc (Nat.le_refl _) _).block b h.lt).trans h
  · have h := ((HC.out.other n4 (.int .i64 0)).other n6 (.int .i64 (n : Int))).put (.int .i64 x)
    exact (((Below.refl _ _).alloc (Nat.le_refl _) _).block c h.lt).trans h
theorem chr_pos (L : List UInt8) : (chrL L).pos ≤ L.length := by
  unfold chrL
  split
  · exact Nat.zero_le _
  · cases hp : pieceL L with
    | error e => exact Nat.zero_le _
    | ok p =>
      obtain ⟨l1, l2, l3⟩ := piece_len L p hp
      dsimp only
      split
      · exact Nat.zero_le _
      · split
        · rename_i h
          have := len_of_hd L 39 _ h (by omega)
          exact this
        · exact l2
theorem txt_pos : ∀ (f : Nat) (L : List UInt8), (txtL f L).pos ≤ L.length
  | 0, _ => Nat.zero_le _
  | f + 1, L => by
    unfold txtL
    split
    · rename_i h
      have := len_of_hd L 34 0 h (by omega)
      exact this
    · cases hp : pieceL L with
      | error e => exact Nat.zero_le _
      | ok p =>
        obtain ⟨l1, l2, l3⟩ := piece_len L p hp
        have := txt_pos f (L.drop p.bytes.length)
        rw [List.length_drop] at this
        dsimp only
        omega
section
variable {s : ByteArray} {at0 : Nat} {tot : List Pc} {K : FuncId} {cap : Array Value} {B : Nat} {V : List Pc → World → Prop} {O : World → Nat → Prop}
/-- The three cells of read's results, new. -/
theorem Vis.three (vis : Vis s at0 tot K cap B V O) {acc : List Pc} {w : World} (h : V acc w) :
    V acc (((w.alloc (.cells #[.int .i64 0] 3)).alloc (.cells #[.int .i64 0] 3)).alloc (.cells #[.int .i64 0] 25)) ∧ Kept B O w (((w.alloc (.cells #[.int .i64 0] 3)).alloc (.cells #[.int .i64 0] 3)).alloc (.cells #[.int .i64 0] 25)) ∧
    One (((w.alloc (.cells #[.int .i64 0] 3)).alloc (.cells #[.int .i64 0] 3)).alloc (.cells #[.int .i64 0] 25)) w.heap.size (.int .i64 0) 3 ∧ One (((w.alloc (.cells #[.int .i64 0] 3)).alloc (.cells #[.int .i64 0] 3)).alloc (.cells #[.int .i64 0] 25)) (w.heap.size + 1) (.int .i64 0) 3 ∧ One (((w.alloc (.cells #[.int .i64 0] 3)).alloc (.cells #[.int .i64 0] 3)).alloc (.cells #[.int .i64 0] 25)) (w.heap.size + 1 + 1) (.int .i64 0) 25 ∧
    ¬ O (((w.alloc (.cells #[.int .i64 0] 3)).alloc (.cells #[.int .i64 0] 3)).alloc (.cells #[.int .i64 0] 25)) w.heap.size ∧ ¬ O (((w.alloc (.cells #[.int .i64 0] 3)).alloc (.cells #[.int .i64 0] 3)).alloc (.cells #[.int .i64 0] 25)) (w.heap.size + 1) ∧ ¬ O (((w.alloc (.cells #[.int .i64 0] 3)).alloc (.cells #[.int .i64 0] 3)).alloc (.cells #[.int .i64 0] 25)) (w.heap.size + 1 + 1) ∧ (((w.alloc (.cells #[.int .i64 0] 3)).alloc (.cells #[.int .i64 0] 3)).alloc (.cells #[.int .i64 0] 25)).heap.size = w.heap.size + 1 + 1 + 1 := by
  obtain ⟨h1, k1⟩ := vis.kept h ((Below.refl _ w).alloc (Nat.le_refl _) (.cells #[.int .i64 0] 3))
  have f1 := vis.fresh acc w #[.int .i64 0] 3 (0, 0) h (by decide)
  have z1 : (w.alloc (.cells #[.int .i64 0] 3)).heap.size = w.heap.size + 1 := World.size_alloc _ _
  have o1 := One.new w (.int .i64 0) 3
  generalize w.alloc (.cells #[.int .i64 0] 3) = w1 at *
  have b2 := (Below.refl w1.heap.size w1).alloc (Nat.le_refl _) (.cells #[.int .i64 0] 3)
  obtain ⟨h2, k2⟩ := vis.kept h1 b2
  have f2 := vis.fresh acc w1 #[.int .i64 0] 3 (0, 0) h1 (by decide)
  have z2 : (w1.alloc (.cells #[.int .i64 0] 3)).heap.size = w1.heap.size + 1 := World.size_alloc _ _
  have o2 := One.new w1 (.int .i64 0) 3
  have g1 := (k2.same _ (by omega) f1).2
  have p1 := o1.below b2 (by omega)
  generalize w1.alloc (.cells #[.int .i64 0] 3) = w2 at *
  have b3 := (Below.refl w2.heap.size w2).alloc (Nat.le_refl _) (.cells #[.int .i64 0] 25)
  obtain ⟨h3, k3⟩ := vis.kept h2 b3
  have f3 := vis.fresh acc w2 #[.int .i64 0] 25 (0, 0) h2 (by decide)
  have z3 : (w2.alloc (.cells #[.int .i64 0] 25)).heap.size = w2.heap.size + 1 := World.size_alloc _ _
  have o3 := One.new w2 (.int .i64 0) 25
  have e1 := (k3.same _ (by omega) g1).2
  have e2 := (k3.same _ (by omega) f2).2
  have q1 := p1.below b3 (by omega)
  have q2 := o2.below b3 (by omega)
  rw [z1] at e2 q2 z2
  rw [z2] at f3 o3 z3
  exact ⟨h3, (k1.trans k2).trans k3, q1, q2, o3, e1, e2, f3, z3⟩
theorem One.same {w w' : World} {g : Nat} {v : Value} {t : TypeId} (h : One w g v t) (k : Kept B O w w') (ho : ¬ O w g) : One w' g v t ∧ ¬ O w' g := by
  obtain ⟨h1, h2⟩ := k.same g h.lt ho
  exact ⟨h1.trans h, h2⟩
/-- Three stores into read's cells. -/
theorem Vis.stores (vis : Vis s at0 tot K cap B V O) {acc : List Pc} {w : World} (h : V acc w) (a b c : Nat) (x0 x1 x2 : Value) (ta tb tc : TypeId) (ha : One w a x0 ta) (hb : One w b x1 tb) (hc : One w c x2 tc) (oa : ¬ O w a) (ob : ¬ O w b) (oc : ¬ O w c) (hab : ¬ a = b) (hac : ¬ a = c) (hbc : ¬ b = c) (ba : B ≤ a) (bb : B ≤ b) (bc : B ≤ c) (y0 y1 y2 : Value) :
    V acc (((w.setCell ⟨a, 0, none⟩ y0).setCell ⟨b, 0, none⟩ y1).setCell ⟨c, 0, none⟩ y2) ∧ One (((w.setCell ⟨a, 0, none⟩ y0).setCell ⟨b, 0, none⟩ y1).setCell ⟨c, 0, none⟩ y2) a y0 ta ∧
    One (((w.setCell ⟨a, 0, none⟩ y0).setCell ⟨b, 0, none⟩ y1).setCell ⟨c, 0, none⟩ y2) b y1 tb ∧ One (((w.setCell ⟨a, 0, none⟩ y0).setCell ⟨b, 0, none⟩ y1).setCell ⟨c, 0, none⟩ y2) c y2 tc := by
  obtain ⟨v1, s1⟩ := vis.set acc w a 0 y0 h ba ha.lt oa
  have hb1 := hb.other (fun e => hab e.symm) y0
  have hc1 := hc.other (fun e => hac e.symm) y0
  obtain ⟨v2, s2⟩ := vis.set acc _ b 0 y1 v1 bb hb1.lt (s1 b ob)
  have hc2 := hc1.other (fun e => hbc e.symm) y1
  obtain ⟨v3, s3⟩ := vis.set acc _ c 0 y2 v2 bc hc2.lt (s2 c (s1 c oc))
  exact ⟨v3, ((ha.put y0).other hab y1).other hac y2, (hb1.put y1).other hbc y2, hc2.put y2⟩

set_option maxHeartbeats 1000000 in
theorem readc_ok (vis : Vis s (at0 + 1) tot K cap B V O) (E : Nat) (hE : E ≤ 1125899906842624) (C0 : Hid (∀ W, Calls Tryz.prog 121 #[.string s, .int .i64 (at0 : Int), .int .u8 39] W fun e w' => e = .returned (.bool true) ∧ W = w')) (ha : at0 < s.size) (hs : s.size ≤ 1125899906842624)
    (C1 : Hid (∀ W, V [] W → Calls Tryz.prog 123 #[.string s, .int .i64 ((at0 : Int) + 1), .func (.func K) #[] cap] W fun e w' => e = .returned (.int .i64 (E : Int)) ∧ Kept B O W w' ∧ V tot w')) (w : World) (hV : V [] w) :
    Calls Tryz.prog 100 #[.string s, .int .i64 (at0 : Int), .func (.func K) #[] cap] w fun e w' => e = .returned (.tuple #[.int .i64 13, .int .i64 (E : Int), .int .i64 0]) ∧ Below B w w' ∧ V tot w' := by
  have hmf : ∀ (fn : Fn) (first cap : Array Value) (w : World), (Instr.makeFunc fn first cap).run Tryz.prog w = .ok (.func fn first cap) w := fun _ _ _ _ => rfl
  obtain ⟨v3, k3, o0, o1, o2, u0, u1, u2, z3⟩ := vis.three hV
  have V3 := Lib.hid v3
  have K3 := Lib.hid k3
  have O0 := Lib.hid o0
  have O1 := Lib.hid o1
  have O2 := Lib.hid o2
  have U0 := Lib.hid u0
  have U1 := Lib.hid u1
  have U2 := Lib.hid u2
  have VS := Lib.hid vis
  have ZB := Lib.hid (vis.size _ _ hV)
  clear v3 k3 o0 o1 o2 u0 u1 u2 vis hV z3
  go_enter_defers Tryz.func100, Tryz.ntmps100
  go_wp2_with fail
  refine (C0.out _).mono ?_
  rintro e w1 ⟨rfl, rfl⟩
  go_wp2_with fail
  refine (C1.out _ V3.out).mono ?_
  rintro e w4 ⟨rfl, k4, v4⟩
  obtain ⟨p0, r0⟩ := O0.out.same k4 U0.out
  obtain ⟨p1, r1⟩ := O1.out.same k4 U1.out
  obtain ⟨p2, r2⟩ := O2.out.same k4 U2.out
  have q0 := p0.c0
  have q1 := p1.c0
  have q2 := p2.c0
  have f0 := p0.free
  have f1 := p1.free
  have f2 := p2.free
  have K4 := Lib.hid (K3.out.trans k4)
  have ST := Lib.hid (VS.out.stores v4 w.heap.size (w.heap.size + 1) (w.heap.size + 1 + 1) _ _ _ _ _ _ p0 p1 p2 r0 r1 r2 (by omega) (by omega) (by omega) ZB.out (by have := ZB.out; omega) (by have := ZB.out; omega) (.int .i64 13) (.int .i64 (E : Int)) (.int .i64 0))
  clear k4 v4 p0 p1 p2 r0 r1 r2
  go_wp2_with fail
  refine leaves_cons (f := 122) (args := #[.pointer (some ⟨w.heap.size, 0, none⟩), .pointer (some ⟨w.heap.size + 1, 0, none⟩), .pointer (some ⟨w.heap.size + 1 + 1, 0, none⟩)]) (by simp) (by simp [go_sem]) ?_
  refine (catch_idle w.heap.size (w.heap.size + 1) (w.heap.size + 1 + 1) _).mono ?_
  rintro e u' w6 ⟨rfl, rfl, hb6⟩
  obtain ⟨v5, s0, s1, s2⟩ := ST.out
  have t0 := (s0.below hb6 s0.lt).c0
  have t1 := (s1.below hb6 s1.lt).c0
  have t2 := (s2.below hb6 s2.lt).c0
  have hB := ZB.out
  have b5 : Below B w (((w4.setCell ⟨w.heap.size, 0, none⟩ (.int .i64 13)).setCell ⟨w.heap.size + 1, 0, none⟩ (.int .i64 (E : Int))).setCell ⟨w.heap.size + 1 + 1, 0, none⟩ (.int .i64 0)) :=
    ((K4.out.below.setCell (p := ⟨w.heap.size, 0, none⟩) (by show B ≤ w.heap.size; omega) _).setCell (p := ⟨w.heap.size + 1, 0, none⟩) (by show B ≤ w.heap.size + 1; omega) _).setCell (p := ⟨w.heap.size + 1 + 1, 0, none⟩) (by show B ≤ w.heap.size + 1 + 1; omega) _
  have b6 := b5.trans (hb6.mono (Nat.le_trans hB b5.size))
  have v6 := (VS.out.keep _ _ _ v5 hb6).1
  clear q0 q1 q2 f0 f1 f2
  simp [Leaves, settle, results, Tryz.results100, go_sem, t0, t1, t2, b6, v6]
set_option maxHeartbeats 1000000 in
theorem readc_bad (vis : Vis s (at0 + 1) tot K cap B V O) (k : Nat) (x : Int) (C0 : Hid (∀ W, Calls Tryz.prog 121 #[.string s, .int .i64 (at0 : Int), .int .u8 39] W fun e w' => e = .returned (.bool true) ∧ W = w')) (ha : at0 < s.size) (hs : s.size ≤ 1125899906842624)
    (C1 : Hid (∀ W, V [] W → Calls Tryz.prog 123 #[.string s, .int .i64 ((at0 : Int) + 1), .func (.func K) #[] cap] W fun e w' => e = .panicked [{ v := fltV k x, recovered := false }] ∧ Kept B O W w')) (w : World) (hV : V [] w) :
    Calls Tryz.prog 100 #[.string s, .int .i64 (at0 : Int), .func (.func K) #[] cap] w fun e w' => e = .returned (.tuple #[.int .i64 0, .int .i64 (k : Int), .int .i64 x]) ∧ Below B w w' := by
  have hmf : ∀ (fn : Fn) (first cap : Array Value) (w : World), (Instr.makeFunc fn first cap).run Tryz.prog w = .ok (.func fn first cap) w := fun _ _ _ _ => rfl
  obtain ⟨v3, k3, o0, o1, o2, u0, u1, u2, z3⟩ := vis.three hV
  have V3 := Lib.hid v3
  have K3 := Lib.hid k3
  have O0 := Lib.hid o0
  have O1 := Lib.hid o1
  have O2 := Lib.hid o2
  have U0 := Lib.hid u0
  have U1 := Lib.hid u1
  have U2 := Lib.hid u2
  have ZB := Lib.hid (vis.size _ _ hV)
  clear v3 k3 o0 o1 o2 u0 u1 u2 vis hV z3
  go_enter_defers Tryz.func100, Tryz.ntmps100
  go_wp2_with fail
  refine (C0.out _).mono ?_
  rintro e w1 ⟨rfl, rfl⟩
  go_wp2_with fail
  refine (C1.out _ V3.out).mono ?_
  rintro e w4 ⟨rfl, k4⟩
  obtain ⟨p0, r0⟩ := O0.out.same k4 U0.out
  obtain ⟨p1, r1⟩ := O1.out.same k4 U1.out
  obtain ⟨p2, r2⟩ := O2.out.same k4 U2.out
  have P0 := Lib.hid p0
  have P1 := Lib.hid p1
  have P2 := Lib.hid p2
  have K4 := Lib.hid (K3.out.trans k4)
  clear k4 p0 p1 p2 r0 r1 r2
  try go_wp2_with fail
  refine leaves_cons (f := 122) (args := #[.pointer (some ⟨w.heap.size, 0, none⟩), .pointer (some ⟨w.heap.size + 1, 0, none⟩), .pointer (some ⟨w.heap.size + 1 + 1, 0, none⟩)]) (by simp) (by simp [go_sem]) ?_
  refine (catch_fault w.heap.size (w.heap.size + 1) (w.heap.size + 1 + 1) _ _ _ k x [] _ P0.out P1.out P2.out (by omega) (by omega) B ZB.out).mono ?_
  rintro e u' w6 ⟨rfl, rfl, hb6, s0, s1, s2⟩
  have t0 := s0.c0
  have t1 := s1.c0
  have t2 := s2.c0
  have b6 := K4.out.below.trans hb6
  simp [Leaves, settle, results, Tryz.results100, go_sem, t0, t1, t2, b6]

set_option maxHeartbeats 1000000 in
theorem readt_ok (vis : Vis s (at0 + 1) tot K cap B V O) (E : Nat) (hE : E ≤ 1125899906842624) (C0 : Hid (∀ W, Calls Tryz.prog 121 #[.string s, .int .i64 (at0 : Int), .int .u8 39] W fun e w' => e = .returned (.bool false) ∧ W = w')) (ha : at0 < s.size) (hs : s.size ≤ 1125899906842624)
    (C1 : Hid (∀ W, V [] W → Calls Tryz.prog 124 #[.string s, .int .i64 ((at0 : Int) + 1), .func (.func K) #[] cap] W fun e w' => e = .returned (.int .i64 (E : Int)) ∧ Kept B O W w' ∧ V tot w')) (w : World) (hV : V [] w) :
    Calls Tryz.prog 100 #[.string s, .int .i64 (at0 : Int), .func (.func K) #[] cap] w fun e w' => e = .returned (.tuple #[.int .i64 14, .int .i64 (E : Int), .int .i64 0]) ∧ Below B w w' ∧ V tot w' := by
  have hmf : ∀ (fn : Fn) (first cap : Array Value) (w : World), (Instr.makeFunc fn first cap).run Tryz.prog w = .ok (.func fn first cap) w := fun _ _ _ _ => rfl
  obtain ⟨v3, k3, o0, o1, o2, u0, u1, u2, z3⟩ := vis.three hV
  have V3 := Lib.hid v3
  have K3 := Lib.hid k3
  have O0 := Lib.hid o0
  have O1 := Lib.hid o1
  have O2 := Lib.hid o2
  have U0 := Lib.hid u0
  have U1 := Lib.hid u1
  have U2 := Lib.hid u2
  have VS := Lib.hid vis
  have ZB := Lib.hid (vis.size _ _ hV)
  clear v3 k3 o0 o1 o2 u0 u1 u2 vis hV z3
  go_enter_defers Tryz.func100, Tryz.ntmps100
  go_wp2_with fail
  refine (C0.out _).mono ?_
  rintro e w1 ⟨rfl, rfl⟩
  go_wp2_with fail
  refine (C1.out _ V3.out).mono ?_
  rintro e w4 ⟨rfl, k4, v4⟩
  obtain ⟨p0, r0⟩ := O0.out.same k4 U0.out
  obtain ⟨p1, r1⟩ := O1.out.same k4 U1.out
  obtain ⟨p2, r2⟩ := O2.out.same k4 U2.out
  have q0 := p0.c0
  have q1 := p1.c0
  have q2 := p2.c0
  have f0 := p0.free
  have f1 := p1.free
  have f2 := p2.free
  have K4 := Lib.hid (K3.out.trans k4)
  have ST := Lib.hid (VS.out.stores v4 w.heap.size (w.heap.size + 1) (w.heap.size + 1 + 1) _ _ _ _ _ _ p0 p1 p2 r0 r1 r2 (by omega) (by omega) (by omega) ZB.out (by have := ZB.out; omega) (by have := ZB.out; omega) (.int .i64 14) (.int .i64 (E : Int)) (.int .i64 0))
  clear k4 v4 p0 p1 p2 r0 r1 r2
  go_wp2_with fail
  refine leaves_cons (f := 122) (args := #[.pointer (some ⟨w.heap.size, 0, none⟩), .pointer (some ⟨w.heap.size + 1, 0, none⟩), .pointer (some ⟨w.heap.size + 1 + 1, 0, none⟩)]) (by simp) (by simp [go_sem]) ?_
  refine (catch_idle w.heap.size (w.heap.size + 1) (w.heap.size + 1 + 1) _).mono ?_
  rintro e u' w6 ⟨rfl, rfl, hb6⟩
  obtain ⟨v5, s0, s1, s2⟩ := ST.out
  have t0 := (s0.below hb6 s0.lt).c0
  have t1 := (s1.below hb6 s1.lt).c0
  have t2 := (s2.below hb6 s2.lt).c0
  have hB := ZB.out
  have b5 : Below B w (((w4.setCell ⟨w.heap.size, 0, none⟩ (.int .i64 14)).setCell ⟨w.heap.size + 1, 0, none⟩ (.int .i64 (E : Int))).setCell ⟨w.heap.size + 1 + 1, 0, none⟩ (.int .i64 0)) :=
    ((K4.out.below.setCell (p := ⟨w.heap.size, 0, none⟩) (by show B ≤ w.heap.size; omega) _).setCell (p := ⟨w.heap.size + 1, 0, none⟩) (by show B ≤ w.heap.size + 1; omega) _).setCell (p := ⟨w.heap.size + 1 + 1, 0, none⟩) (by show B ≤ w.heap.size + 1 + 1; omega) _
  have b6 := b5.trans (hb6.mono (Nat.le_trans hB b5.size))
  have v6 := (VS.out.keep _ _ _ v5 hb6).1
  clear q0 q1 q2 f0 f1 f2
  simp [Leaves, settle, results, Tryz.results100, go_sem, t0, t1, t2, b6, v6]
set_option maxHeartbeats 1000000 in
theorem readt_bad (vis : Vis s (at0 + 1) tot K cap B V O) (k : Nat) (x : Int) (C0 : Hid (∀ W, Calls Tryz.prog 121 #[.string s, .int .i64 (at0 : Int), .int .u8 39] W fun e w' => e = .returned (.bool false) ∧ W = w')) (ha : at0 < s.size) (hs : s.size ≤ 1125899906842624)
    (C1 : Hid (∀ W, V [] W → Calls Tryz.prog 124 #[.string s, .int .i64 ((at0 : Int) + 1), .func (.func K) #[] cap] W fun e w' => e = .panicked [{ v := fltV k x, recovered := false }] ∧ Kept B O W w')) (w : World) (hV : V [] w) :
    Calls Tryz.prog 100 #[.string s, .int .i64 (at0 : Int), .func (.func K) #[] cap] w fun e w' => e = .returned (.tuple #[.int .i64 0, .int .i64 (k : Int), .int .i64 x]) ∧ Below B w w' := by
  have hmf : ∀ (fn : Fn) (first cap : Array Value) (w : World), (Instr.makeFunc fn first cap).run Tryz.prog w = .ok (.func fn first cap) w := fun _ _ _ _ => rfl
  obtain ⟨v3, k3, o0, o1, o2, u0, u1, u2, z3⟩ := vis.three hV
  have V3 := Lib.hid v3
  have K3 := Lib.hid k3
  have O0 := Lib.hid o0
  have O1 := Lib.hid o1
  have O2 := Lib.hid o2
  have U0 := Lib.hid u0
  have U1 := Lib.hid u1
  have U2 := Lib.hid u2
  have ZB := Lib.hid (vis.size _ _ hV)
  clear v3 k3 o0 o1 o2 u0 u1 u2 vis hV z3
  go_enter_defers Tryz.func100, Tryz.ntmps100
  go_wp2_with fail
  refine (C0.out _).mono ?_
  rintro e w1 ⟨rfl, rfl⟩
  go_wp2_with fail
  refine (C1.out _ V3.out).mono ?_
  rintro e w4 ⟨rfl, k4⟩
  obtain ⟨p0, r0⟩ := O0.out.same k4 U0.out
  obtain ⟨p1, r1⟩ := O1.out.same k4 U1.out
  obtain ⟨p2, r2⟩ := O2.out.same k4 U2.out
  have P0 := Lib.hid p0
  have P1 := Lib.hid p1
  have P2 := Lib.hid p2
  have K4 := Lib.hid (K3.out.trans k4)
  clear k4 p0 p1 p2 r0 r1 r2
  try go_wp2_with fail
  refine leaves_cons (f := 122) (args := #[.pointer (some ⟨w.heap.size, 0, none⟩), .pointer (some ⟨w.heap.size + 1, 0, none⟩), .pointer (some ⟨w.heap.size + 1 + 1, 0, none⟩)]) (by simp) (by simp [go_sem]) ?_
  refine (catch_fault w.heap.size (w.heap.size + 1) (w.heap.size + 1 + 1) _ _ _ k x [] _ P0.out P1.out P2.out (by omega) (by omega) B ZB.out).mono ?_
  rintro e u' w6 ⟨rfl, rfl, hb6, s0, s1, s2⟩
  have t0 := s0.c0
  have t1 := s1.c0
  have t2 := s2.c0
  have b6 := K4.out.below.trans hb6
  simp [Leaves, settle, results, Tryz.results100, go_sem, t0, t1, t2, b6]

/-- read: what it answers of a row that begins with a quote. -/
def kindQ (L : List UInt8) : Int := if (readL L).err = 0 then (if hd L = 39 then 13 else 14) else 0
theorem read_any {n : Nat} (vis : Vis s (n + 1) (readL (rest s n)).ps K cap B V O) (hs : s.size ≤ 1125899906842624) (hn : n < s.size) (w : World) (hV : V [] w) :
    Calls Tryz.prog 100 #[.string s, .int .i64 (n : Int), .func (.func K) #[] cap] w fun e w' => e = .returned (.tuple #[.int .i64 (kindQ (rest s n)), .int .i64 ((n + 1 + (readL (rest s n)).pos : Nat) : Int), .int .i64 (readL (rest s n)).err]) ∧ Below B w w' ∧ ((readL (rest s n)).err = 0 → V (readL (rest s n)).ps w') := by
  have c0 := fun W => stands_at s n 39 (by omega) hs W
  have hsz : ((n : Int) + 1) = ((n + 1 : Nat) : Int) := by omega
  have hlen := rest_len s n
  by_cases q : hd (rest s n) = 39
  · rw [show (hd (rest s n) == 39) = true from beq_iff_eq.2 q] at c0
    have hr : readL (rest s n) = chrL (rest s (n + 1)) := by unfold readL; rw [if_pos q, rest_drop]
    have hk : kindQ (rest s n) = if (readL (rest s n)).err = 0 then 13 else 0 := by unfold kindQ; rw [if_pos q]
    have c1 : ∀ W, V [] W → _ := fun W h => charEnd_any vis hs (by omega) (by rw [hr]) W h
    rw [← hr] at c1
    have hpos := chr_pos (rest s (n + 1))
    rw [← hr, rest_len] at hpos
    rw [hk]
    generalize readL (rest s n) = R at *
    by_cases h0 : R.err = 0
    · rw [if_pos h0, h0]
      refine (readc_ok vis (n + 1 + R.pos) (by omega) c0 hn hs (fun W h => ?_) w hV).mono ?_
      · rw [hsz]
        refine (c1 W h).mono ?_
        rintro e w' ⟨h1, h2, h3⟩
        unfold Ends at h1
        rw [if_pos h0] at h1
        exact ⟨h1, h2, h3 h0⟩
      · rintro e w' ⟨h1, h2, h3⟩
        exact ⟨h1, h2, fun _ => h3⟩
    · rw [if_neg h0]
      refine (readc_bad vis (n + 1 + R.pos) R.err c0 hn hs (fun W h => ?_) w hV).mono ?_
      · rw [hsz]
        refine (c1 W h).mono ?_
        rintro e w' ⟨h1, h2, h3⟩
        unfold Ends at h1
        rw [if_neg h0] at h1
        exact ⟨h1, h2⟩
      · rintro e w' ⟨h1, h2⟩
        exact ⟨h1, h2, fun h => absurd h h0⟩
  · rw [show (hd (rest s n) == 39) = false from beq_eq_false_iff_ne.2 q] at c0
    have hr : readL (rest s n) = txtL (rest s n).length (rest s (n + 1)) := by unfold readL; rw [if_neg q, rest_drop]
    have hk : kindQ (rest s n) = if (readL (rest s n)).err = 0 then 14 else 0 := by unfold kindQ; rw [if_neg q]
    have c1 : ∀ W, V [] W → _ := fun W h => textEnd_any vis hs (by omega) (rest s n).length (by omega) (by rw [hr]) W h
    rw [← hr] at c1
    have hpos := txt_pos (rest s n).length (rest s (n + 1))
    rw [← hr, rest_len] at hpos
    rw [hk]
    generalize readL (rest s n) = R at *
    by_cases h0 : R.err = 0
    · rw [if_pos h0, h0]
      refine (readt_ok vis (n + 1 + R.pos) (by omega) c0 hn hs (fun W h => ?_) w hV).mono ?_
      · rw [hsz]
        refine (c1 W h).mono ?_
        rintro e w' ⟨h1, h2, h3⟩
        unfold Ends at h1
        rw [if_pos h0] at h1
        exact ⟨h1, h2, h3 h0⟩
      · rintro e w' ⟨h1, h2, h3⟩
        exact ⟨h1, h2, fun _ => h3⟩
    · rw [if_neg h0]
      refine (readt_bad vis (n + 1 + R.pos) R.err c0 hn hs (fun W h => ?_) w hV).mono ?_
      · rw [hsz]
        refine (c1 W h).mono ?_
        rintro e w' ⟨h1, h2, h3⟩
        unfold Ends at h1
        rw [if_neg h0] at h1
        exact ⟨h1, h2⟩
      · rintro e w' ⟨h1, h2⟩
        exact ⟨h1, h2, fun h => absurd h h0⟩
end
end Go.Proofs.YtkehchajgdepaaaGreatDoor.Qt
/-
  The contracts of package quote's Scan and readWhole (whatever visits). Conditions: the string has at most 2^50 bytes; the program's list of names stands.
-/
namespace Go.Proofs.YtkehchajgdepaaaGreatDoor.Qt
open Go.RowKit Gly
open Wrd (rn wd)
set_option linter.unusedSimpArgs false
set_option linter.unusedVariables false

theorem grown_of_below {w w' : World} (h : Below w.heap.size w w') : w.grownBy w' none := ⟨h.os, h.tape, h.output, h.size, fun k hk _ => h.block k hk⟩
theorem grown_set (w : World) (j i : Nat) (v : Value) : w.grownBy (w.setCell ⟨j, i, none⟩ v) (some j) := ⟨rfl, rfl, rfl, by simp, fun k _ hk => heap_setCell_other w ⟨j, i, none⟩ k v (fun e => hk (by simp [e]))⟩

/-- Who visits nothing. -/
theorem vis_scan (s : ByteArray) (at0 : Nat) (tot : List Pc) (w0 : World) (hN : Nam w0) : Vis s at0 tot 101 #[] w0.heap.size (fun _ w => Below w0.heap.size w0 w) (fun _ _ => False) where
  enter := enters_of Tryz.func101 (by kernel_rfl) rfl
  nam := fun _ w h => hN.below h (Nat.le_refl _)
  size := fun _ w h => h.size
  keep := fun _ w w' h hb => ⟨h.trans (hb.mono h.size), fun _ _ h => h⟩
  fresh := fun _ _ _ _ _ _ _ h => h
  set := fun _ w j i v h hj _ _ => ⟨h.setCell (p := ⟨j, i, none⟩) hj v, fun _ h => h⟩
  step := fun acc p w h _ _ => by
    have HB := Lib.hid h
    clear h
    generalize at0 + (flat acc).length = n
    unfold pcV pcC
    simp only [Array.append_empty]
    go_enter Tryz.func101, Tryz.ntmps101
    go_wp2
    go_end0
    have hb : Below w.heap.size w (w.alloc (.cells #[.int .i64 (p.form : Int), .int .i64 (p.num : Int), .int .i64 (n : Int), .int .i64 ((n + p.bytes.length : Nat) : Int)] 109)) := (Below.refl _ _).alloc (Nat.le_refl _) _
    exact ⟨rfl, HB.out.trans (hb.mono HB.out.size), hb.mono HB.out.size, fun j hj _ => ⟨hb.block j hj, id⟩⟩

/-- Scan's answers. -/
def scanI (s : ByteArray) (i : Int) : Int × Int × Int := if 0 ≤ i then scanL i.toNat (rest s i.toNat) else (0, 0, 0)
theorem scan_no (s : ByteArray) (i : Int) (hs : s.size ≤ 1125899906842624) (hq : (hdI s i == 34 || hdI s i == 39) = false) (w : World) :
    Calls Tryz.prog 83 #[.string s, .int .i64 i] w fun e w' => e = .returned (.tuple #[.int .i64 0, .int .i64 0, .int .i64 0]) ∧ w = w' := by
  have c0 := fun W => quoteAt_any s i hs W
  rw [hq] at c0
  have C0 := Lib.hid c0
  clear c0
  go_enter Tryz.func83, Tryz.ntmps83
  go_wp2_with fail
  refine (C0.out _).mono ?_
  rintro e w1 ⟨rfl, rfl⟩
  go_wp2_with fail
  go_ret3
  exact ⟨rfl, rfl⟩
theorem Scan_any (s : ByteArray) (i : Int) (hs : s.size ≤ 1125899906842624) (w : World) (hN : Nam w) :
    Calls Tryz.prog 83 #[.string s, .int .i64 i] w fun e w' => e = .returned (.tuple #[.int .i64 (scanI s i).1, .int .i64 (scanI s i).2.1, .int .i64 (scanI s i).2.2]) ∧ Below w.heap.size w w' := by
  cases hq : (hdI s i == 34 || hdI s i == 39) with
  | false =>
    have e : scanI s i = (0, 0, 0) := by
      unfold scanI
      split
      · rename_i h0
        unfold scanL quoted
        unfold hdI at hq
        rw [if_pos h0] at hq
        rw [hq]
        rfl
      · rfl
    rw [e]
    refine (scan_no s i hs hq w).mono ?_
    rintro e w' ⟨rfl, rfl⟩
    exact ⟨rfl, Below.refl _ _⟩
  | true =>
    have c0 := fun W => quoteAt_any s i hs W
    rw [hq] at c0
    have h0 : 0 ≤ i := by
      rcases Int.lt_or_le i 0 with h | h
      · unfold hdI at hq
        rw [if_neg (by omega)] at hq
        exact absurd hq (by decide)
      · exact h
    obtain ⟨n, rfl⟩ := Int.eq_ofNat_of_zero_le h0
    rw [hdI_nat] at hq
    have hn : n < s.size := by
      rcases Nat.lt_or_ge n s.size with h | h
      · exact h
      · rw [hd_rest_out s n h] at hq
        exact absurd hq (by decide)
    have e : scanI s (n : Int) = (kindQ (rest s n), ((n + 1 + (readL (rest s n)).pos : Nat) : Int), (readL (rest s n)).err) := by
      unfold scanI scanL
      rw [if_pos h0, Int.toNat_natCast, if_pos (show quoted (rest s n) = true from hq)]
      rfl
    rw [e]
    have c1 := read_any (vis_scan s (n + 1) (readL (rest s n)).ps w hN) hs hn w (Below.refl _ _)
    dsimp only
    generalize kindQ (rest s n) = k at *
    generalize ((n + 1 + (readL (rest s n)).pos : Nat) : Int) = E at *
    generalize (readL (rest s n)).err = x at *
    have C0 := Lib.hid c0
    have C1 := Lib.hid c1
    clear c0 c1 e hN hq h0
    go_enter Tryz.func83, Tryz.ntmps83
    go_wp2_with fail
    refine (C0.out _).mono ?_
    rintro e w1 ⟨rfl, rfl⟩
    go_wp2_with fail
    refine C1.out.mono ?_
    rintro e w2 ⟨rfl, hb2, -⟩
    have HB2 := Lib.hid hb2
    clear hb2
    go_wp2_with fail
    go_ret3
    exact ⟨rfl, HB2.out⟩

section
variable {s : ByteArray} {K : FuncId} {cap : Array Value} {B : Nat} {V : List Pc → World → Prop} {O : World → Nat → Prop}
end
end Go.Proofs.YtkehchajgdepaaaGreatDoor.Qt
/-
  The contract of package quote's Runes: the numbers of the characters, in memory of the call's own. Conditions: the string has at most 2^50 bytes; the numbers take at most 2^47 bytes; the program's list of names stands.
-/
namespace Go.Proofs.YtkehchajgdepaaaGreatDoor.Qt
open Go.RowKit Gly
open Wrd (rn wd)
set_option linter.unusedSimpArgs false
set_option linter.unusedVariables false

theorem infoInt : (Tryz.prog.info? 3).map (fun i => (i.zero, i.size, i.bytes)) = some (some (.int .i64 0), 1, 8) := by kernel_rfl
def intC (xs : List Nat) : List Value := xs.map fun (x : Nat) => Value.int .i64 (x : Int)
/-- A row of numbers in memory of the call's own. -/
def Ints (w : World) (B : Nat) (v : Value) (xs : List Nat) : Prop := w.ownsRow B 3 1 v xs.length (intC xs)
theorem Ints.push {w : World} {B : Nat} {v : Value} {xs : List Nat} {x : Nat} (h : w.ownsRow B 3 1 v (xs.length + 1) (intC xs ++ [.int .i64 (x : Int)])) : Ints w B v (xs ++ [x]) := by
  unfold Ints
  rw [List.length_append]
  have : intC (xs ++ [x]) = intC xs ++ [.int .i64 (x : Int)] := by simp [intC]
  rw [this]
  exact h
theorem Ints.kept {w w' : World} {B : Nat} {v : Value} {xs : List Nat} {row : Option Nat} (h : Ints w B v xs) (hg : w.grownBy w' row) (hne : v.ownBlock = none ∨ v.ownBlock ≠ row) : Ints w' B v xs := World.ownsRow.kept h hg hne
theorem Ints.shape {w : World} {B : Nat} {v : Value} {xs : List Nat} (h : Ints w B v xs) : (v = .slice none 0 0 ∧ xs = []) ∨ ∃ g cap, v = .slice (some ⟨g, 0, none⟩) xs.length cap ∧ B ≤ g ∧ g < w.heap.size := by
  rcases h.2 with ⟨rfl, h0⟩ | ⟨g, cap, cur, rfl, hb, hg, _⟩
  · exact .inl ⟨rfl, List.eq_nil_of_length_eq_zero h0⟩
  · exact .inr ⟨g, cap, rfl, hb, lt_of_block hg⟩
theorem Ints.at' {w : World} {B g n cap : Nat} {xs : List Nat} (h : w.ownsRow B 3 1 (.slice (some ⟨g, 0, none⟩) n cap) n (intC xs)) (k : Nat) (hk : k < n) (hx : k < xs.length) : w.cell? ⟨g, k, none⟩ = some (.int .i64 ((xs[k] : Nat) : Int)) := by
  rw [h.cellAt k (by omega)]
  simp [intC, hx]
theorem grown_trans {a w w' : World} {row row' : Option Nat} (h : a.grownBy w row) (k : w.grownBy w' row') (hr : ∀ j, j < a.heap.size → some j ≠ row → some j ≠ row') : a.grownBy w' row :=
  ⟨k.os.trans h.os, k.tape.trans h.tape, k.output.trans h.output, Nat.le_trans h.size k.size, fun j hj hne => (k.block j (Nat.lt_of_lt_of_le hj h.size) (hr j hj hne)).trans (h.block j hj hne)⟩
theorem Ints.below {w w' : World} {B : Nat} {v : Value} {xs : List Nat} (h : Ints w B v xs) (hb : Below w.heap.size w w') : Ints w' B v xs := by
  rcases h.shape with ⟨rfl, -⟩ | ⟨g, cap, rfl, -, -⟩
  · exact h.kept (grown_of_below hb) (.inl rfl)
  · exact h.kept (grown_of_below hb) (.inr (by simp [Value.ownBlock]))

/-- append of one number to a row of the call's own: the same row, or a new one. -/
theorem append_int (w : World) {ops : Array Oper} {rest : List Oper} {o : Oper} {a : Act} {Q : Exit → Act → World → Prop} (hg : o.guard = none) (sl x : Operand) (hop : o.op = Op.call { callee := Callee.builtin Builtin.append, args := #[sl, x], argTypes := #[78, 78] })
    (base : Nat) (v : Value) (xs : List Nat) (hs : a.eval sl = v) (hown : Ints w base v xs) (ad : Addr) (y c : Nat) (hx : a.eval x = .slice (some ad) 1 c) (hc : w.cell? ad = some (.int .i64 (y : Int))) (b1 : xs.length + 1 ≤ 17592186044416) (hB : base ≤ w.heap.size)
    (hK : ∀ v' w', Ints w' base v' (xs ++ [y]) → w.grownBy w' v.ownBlock → (v'.ownBlock = v.ownBlock ∨ ∃ g, v'.ownBlock = some g ∧ w.heap.size ≤ g) → wpList Tryz.prog ops Q rest (a.put o.dst v') w') :
    wpList Tryz.prog ops Q (o :: rest) a w := by
  obtain ⟨i0, hi, hz0, hz1, hz2⟩ := info_parts infoInt
  have c1 : ∀ j u, [Value.int .i64 (y : Int)][j]? = some u → w.cell? (ad.add j) = some u := by
    intro j u hj
    match j, hj with
    | 0, hj =>
      simp at hj
      subst hj
      have : ad.add 0 = ad := by unfold Addr.add; split <;> simp_all
      rw [this]
      exact hc
  have c2 : ∀ u ∈ [Value.int .i64 (y : Int)], u.oneCell' = true := by intro u hu; simp at hu; subst hu; rfl
  have weak : ∀ (v' : Value) (w' : World), w'.ownsRow w.heap.size 3 1 v' (xs.length + 1) (intC xs ++ [.int .i64 (y : Int)]) → Ints w' base v' (xs ++ [y]) ∧ ∃ g, v'.ownBlock = some g ∧ w.heap.size ≤ g := by
    rintro v' w' ⟨h1, h2⟩
    rcases h2 with ⟨rfl, h0⟩ | ⟨g, cap, cur, rfl, hb, rest⟩
    · omega
    · exact ⟨Ints.push ⟨h1, .inr ⟨g, cap, cur, rfl, Nat.le_trans hB hb, rest⟩⟩, g, rfl, hb⟩
  have h2 := hown.2
  have hl : (intC xs).length = xs.length := by simp [intC]
  rcases h2 with ⟨rfl, h0⟩ | ⟨g, cap, cur, rfl, hb, hgg, hn, hcap, hcur, htk⟩
  · refine wpList_append_own w hg sl x 78 hop w.heap.size 3 i0 (.int .i64 0) 1 8 Tryz.underlying78 hi hz0 hz1 hz2 rfl (by decide) (.slice none 0 0) xs.length (intC xs) hs ?_ ad 1 c [.int .i64 (y : Int)] hx rfl c1 c2 (by unfold maxLen; omega) (by omega) (Nat.le_refl _) ?_
    · exact ⟨by rw [hl, Nat.mul_one], .inl ⟨rfl, h0⟩⟩
    · intro v' w' h1 h2 _
      obtain ⟨k1, k2⟩ := weak v' w' h1
      exact hK v' w' k1 h2 (.inr k2)
  · by_cases hfit : xs.length + 1 ≤ cap
    · refine wpList_append_fits w hg sl x 78 hop base 3 i0 1 Tryz.underlying78 hi hz1 g xs.length cap (intC xs) hs hown ad 1 c [.int .i64 (y : Int)] hx rfl c1 c2 hfit ?_
      intro w' h1 h2
      exact hK _ w' (Ints.push h1) h2 (.inl rfl)
    · refine wpList_append_grows w hg sl x 78 hop 3 i0 (.int .i64 0) 1 8 Tryz.underlying78 hi hz0 hz1 hz2 rfl (by decide) (some ⟨g, 0, none⟩) xs.length cap (intC xs) hs (fun e => by cases e) (by rw [hl, Nat.mul_one]) ?_ ad 1 c [.int .i64 (y : Int)] hx rfl c1 c2 (by omega) (by unfold maxLen; omega) (by omega) ?_
      · intro b hb j u hj
        obtain rfl := Option.some.inj hb
        have hj1 : j < xs.length := by
          rw [← hl]
          exact (List.getElem?_eq_some_iff.1 hj).1
        have := Ints.at' hown j hj1 hj1
        have e : (⟨g, 0, none⟩ : Addr).add j = ⟨g, j, none⟩ := by unfold Addr.add; split <;> simp_all
        rw [e, this, ← hj]
        simp [intC, hj1]
      · intro v' w' h1 h2
        obtain ⟨k1, k2⟩ := weak v' w' h1
        exact hK v' w' k1 ⟨h2.os, h2.tape, h2.output, h2.size, fun k hk _ => h2.block k hk (by simp)⟩ (.inr k2)

/-- What Runes' visitor has laid: the variable's block, the row in it. -/
def RunV (w0 : World) (acc : List Pc) (w : World) : Prop := Below w0.heap.size w0 w ∧ ∃ v, One w w0.heap.size v 78 ∧ Ints w (w0.heap.size + 1) v (chs acc)
def RunO (w0 : World) (w : World) (j : Nat) : Prop := j = w0.heap.size ∨ ∃ v, One w w0.heap.size v 78 ∧ v.ownBlock = some j
theorem One.uniq {w : World} {g : Nat} {v v' : Value} {t t' : TypeId} (h : One w g v t) (h' : One w g v' t') : v = v' := by
  unfold One at h h'
  rw [h] at h'
  simp at h'
  exact h'.1
theorem RunV.new (w0 : World) : RunV w0 [] (w0.alloc (.cells #[.slice none 0 0] 78)) :=
  ⟨(Below.refl _ _).alloc (Nat.le_refl _) _, _, One.new w0 _ _, World.ownsRow_nil _ _ _ _⟩
/-- Runes' answer: the error, and the row. -/
def RunesOut (L : List UInt8) (w : World) (e : Ending) (w' : World) : Prop := ∃ v, e = .returned (.tuple #[v, .int .i64 (wholeL L)]) ∧ Ints w' (w.heap.size + 1) v (runesL L) ∧ Below w.heap.size w w'
end Go.Proofs.YtkehchajgdepaaaGreatDoor.Qt
/-
  The contract of package quote's Plain. Conditions: the string has at most 2^46 bytes; the program's list of names stands.
-/
namespace Go.Proofs.YtkehchajgdepaaaGreatDoor.Qt
open Go.RowKit Gly
open Wrd (rn wd)
set_option linter.unusedSimpArgs false
set_option linter.unusedVariables false

theorem builder_held {T e : TypeId} {B b : Nat} {bs : List Value} {w w' : World} (h : Lib.IsBuilderF T e B b bs w) (hb : w'.heap[b]? = w.heap[b]?)
    (hk : ∀ (k : Nat) (c : Array Value) (fz : Nat × Nat), w.heap[k]? = some (Obj.cells c e fz) → w'.heap[k]? = some (Obj.cells c e fz)) : Lib.IsBuilderF T e B b bs w' := by
  have key : ∀ p, Lib.BuilderAtF T e B b p bs w → Lib.BuilderAtF T e B b p bs w' := by
    rintro p ⟨hB, v, hbb, hown, hne⟩
    refine ⟨hB, v, hb.trans hbb, ⟨hown.1, ?_⟩, hne⟩
    rcases hown.2 with hn | ⟨g, cap, cur, fz, rfl, h1, h2, h3⟩
    · exact .inl hn
    · exact .inr ⟨g, cap, cur, fz, rfl, h1, hk _ _ _ h2, h3⟩
  exact h.elim (fun x => .inl (key _ x)) (fun x => .inr (key _ x))
theorem narrow_len (L : List UInt8) (p : Pc) (h : pieceL L = .ok p) : (narrow p).bytes.length ≤ p.bytes.length := by
  unfold narrow
  by_cases q : p.form = 2
  · rw [if_pos q]
    rcases piece_cases L p h with ⟨h1, h2, rfl⟩ | ⟨h1, h2, h3, rfl⟩ | ⟨h1, h2, h3, h4, h5, rfl⟩ | ⟨h1, h2, h3, rfl⟩
    · simp at q
    · rcases gap_cases L with z | ⟨k, r1, r2, r3, r4, r5⟩
      · exact absurd z h3
      · dsimp only
        rw [List.length_take]
        simp
        omega
    · simp at q
    · simp at q
  · rw [if_neg q]
    exact Nat.le_refl _
theorem sub_take (s : ByteArray) (a k : Nat) : (s.extract a (a + k)).data.toList = (rest s a).take k := by
  rw [Lib.extract_data, Nat.add_sub_cancel_left]
  rfl

/-- What Plain's visitor has laid: the text in a variable, the builder, how far it is. -/
def PlnV (s : ByteArray) (w0 : World) (acc : List Pc) (w : World) : Prop :=
  Below w0.heap.size w0 w ∧ One w w0.heap.size (.string s) 9 ∧ ∃ (d : Nat) (bs : List UInt8), One w (w0.heap.size + 2) (.int .i64 (d : Int)) 3 ∧ Bld w0.heap.size (w0.heap.size + 1) bs w ∧
    d ≤ 1 + (flat acc).length ∧ 1 + (flat acc).length ≤ s.size ∧ bs ++ (rest s d).take (1 + (flat acc).length - d) = (rest s 0).take 1 ++ flat (acc.map narrow) ∧ (flat (acc.map narrow)).length ≤ (flat acc).length
def PlnO (w0 : World) (w : World) (j : Nat) : Prop := j = w0.heap.size ∨ j = w0.heap.size + 1 ∨ j = w0.heap.size + 2 ∨ ∃ c fz, w.heap[j]? = some (.cells c 5 fz)
theorem Bld.lt {B b : Nat} {bs : List UInt8} {w : World} (h : Bld B b bs w) : b < w.heap.size := by
  rcases h with ⟨_, v, hb, _⟩ | ⟨_, v, hb, _⟩ <;> exact lt_of_block hb
theorem Bld.below {B b : Nat} {bs : List UInt8} {w w' : World} (h : Bld B b bs w) (hb : Below w.heap.size w w') : Bld B b bs w' := builder_below h hb
theorem Bld.new (w : World) : Bld w.heap.size w.heap.size [] (w.alloc (.cells #[.pointer none, .slice none 0 0] 65)) := Lib.IsBuilderF.of (Lib.fresh_isBuilder 65 5 w)
theorem Bld.base {B B' b : Nat} {bs : List UInt8} {w : World} (h : Bld B b bs w) (hB : B' ≤ B) : Bld B' b bs w := by
  have key : ∀ p, Lib.BuilderAtF 65 5 B b p (Lib.byteCells bs) w → Lib.BuilderAtF 65 5 B' b p (Lib.byteCells bs) w := by
    rintro p ⟨h1, v, h2, h3, h4⟩
    refine ⟨Nat.le_trans hB h1, v, h2, ⟨h3.1, ?_⟩, h4⟩
    rcases h3.2 with hn | ⟨g, cap, cur, fz, rfl, q1, q2⟩
    · exact .inl hn
    · exact .inr ⟨g, cap, cur, fz, rfl, Nat.le_trans hB q1, q2⟩
  exact h.elim (fun x => .inl (key _ x)) (fun x => .inr (key _ x))
theorem One.others {w w' : World} {g b : Nat} {v : Value} {t : TypeId} (h : One w g v t) (hk : Lib.OthersKept 5 (some b) w w') (hg : g ≠ b) (ht : t ≠ 5) : One w' g v t :=
  hk g _ h (fun e => hg (Option.some.inj e)) (fun c fz e => ht (by injection e))

theorem flat_txt : ∀ (f : Nat) (L : List UInt8), (flat (txtL f L).ps).length ≤ L.length
  | 0, _ => Nat.zero_le _
  | f + 1, L => by
    unfold txtL
    split
    · exact Nat.zero_le _
    · cases hp : pieceL L with
      | error e => exact Nat.zero_le _
      | ok p =>
        obtain ⟨l1, l2, l3⟩ := piece_len L p hp
        have := flat_txt f (L.drop p.bytes.length)
        rw [List.length_drop] at this
        dsimp only
        rw [flat_cons, List.length_append]
        omega
theorem flat_read (L : List UInt8) (h : L ≠ []) : 1 + (flat (readL L).ps).length ≤ L.length := by
  have hl := List.length_pos_iff.2 h
  unfold readL
  split
  · unfold chrL
    split
    · simp [flat]
      omega
    · cases hp : pieceL (L.drop 1) with
      | error e =>
        simp [flat]
        omega
      | ok p =>
        obtain ⟨l1, l2, l3⟩ := piece_len _ p hp
        rw [List.length_drop] at l2
        dsimp only
        split
        · simp [flat]
          omega
        · split
          · simp [flat]
            omega
          · simp [flat]
            omega
  · have := flat_txt L.length (L.drop 1)
    rw [List.length_drop] at this
    omega
theorem whole_form (L : List UInt8) (h : wholeL L = 0) : L.length = 2 + (flat (readL L).ps).length ∧ L.drop (1 + (flat (readL L).ps).length) = L.take 1 := by
  obtain ⟨hq, h0, hl⟩ := whole_ok L h
  rcases read_ok L hq h0 with ⟨q, r, e, h1, h2⟩ | ⟨q, p, r, h3, h1, e, h2, h4, h5, h6⟩
  · have hlen := congrArg List.length e
    rw [List.length_cons, List.length_append, List.length_cons] at hlen
    obtain rfl : r = [] := List.eq_nil_of_length_eq_zero (by omega)
    refine ⟨by rw [hlen]; simp; omega, ?_⟩
    have e1 : L.take 1 = [34] := by rw [e]; rfl
    rw [e1]
    conv => lhs; arg 2; rw [e]
    rw [Nat.add_comm, List.drop_succ_cons, List.drop_left]
  · have hlen := congrArg List.length e
    rw [List.length_cons, List.length_append, List.length_cons] at hlen
    obtain rfl : r = [] := List.eq_nil_of_length_eq_zero (by omega)
    have ef : flat (readL L).ps = p.bytes := by rw [h3]; simp [flat]
    rw [ef]
    refine ⟨by rw [hlen]; simp; omega, ?_⟩
    have e1 : L.take 1 = [39] := by rw [e]; rfl
    rw [e1]
    conv => lhs; arg 2; rw [e]
    rw [Nat.add_comm, List.drop_succ_cons, List.drop_left]
theorem PlnV.new (s : ByteArray) (h0 : 1 ≤ s.size) (w : World) : PlnV s w [] (((w.alloc (.cells #[.string s] 9)).alloc (.cells #[.pointer none, .slice none 0 0] 65)).alloc (.cells #[.int .i64 0] 3)) := by
  have z1 : (w.alloc (.cells #[.string s] 9)).heap.size = w.heap.size + 1 := World.size_alloc _ _
  have o1 := One.new w (.string s) 9
  have b1 := (Below.refl w.heap.size w).alloc (Nat.le_refl _) (.cells #[.string s] 9)
  generalize w.alloc (.cells #[.string s] 9) = w1 at *
  have z2 : (w1.alloc (.cells #[.pointer none, .slice none 0 0] 65)).heap.size = w1.heap.size + 1 := World.size_alloc _ _
  have d2 := Bld.new w1
  have b2 := (Below.refl w1.heap.size w1).alloc (Nat.le_refl _) (.cells #[.pointer none, .slice none 0 0] 65)
  generalize w1.alloc (.cells #[.pointer none, .slice none 0 0] 65) = w2 at *
  have o3 := One.new w2 (.int .i64 0) 3
  have b3 := (Below.refl w2.heap.size w2).alloc (Nat.le_refl _) (.cells #[.int .i64 0] 3)
  generalize w2.alloc (.cells #[.int .i64 0] 3) = w3 at *
  rw [z2, z1] at o3
  rw [z1] at d2
  refine ⟨(b1.trans (b2.mono (by omega))).trans (b3.mono (by omega)), (o1.below b2 o1.lt).below b3 (by omega), 0, [], o3, (d2.base (by omega)).below b3, Nat.zero_le _, h0, ?_, Nat.le_refl _⟩
  simp [flat]
end Go.Proofs.YtkehchajgdepaaaGreatDoor.Qt
/-
  The contract of package quote's Write. Conditions: the numbers take at most 2^47 - 4096 bytes; the library's table of powers of ten stands.
-/
namespace Go.Proofs.YtkehchajgdepaaaGreatDoor.Qt
open Go.RowKit Gly
open Go.Lib (decDigits)
set_option linter.unusedSimpArgs false
set_option linter.unusedVariables false

theorem enc_ascii : ∀ c : Nat, c < 128 → Utf8.encode (c : Int) = ⟨#[UInt8.ofNat c]⟩ := by decide +kernel
theorem conv_rune (c : Nat) (h : c < 128) (W : World) : (convert 21 9 (.int .i32 (c : Int))).run Tryz.prog W = .ok (.string ⟨#[UInt8.ofNat c]⟩) W := by
  have := run_convert_int_string (P := Tryz.prog) W 21 9 .i32 (c : Int) (by rw [Tryz.underlying21]; rfl) Tryz.underlying9
  rw [enc_ascii c h] at this
  exact this
theorem conv_byte (c : Nat) (h : c < 128) (W : World) : (convert 5 9 (.int .u8 (c : Int))).run Tryz.prog W = .ok (.string ⟨#[UInt8.ofNat c]⟩) W := by
  have := run_convert_int_string (P := Tryz.prog) W 5 9 .u8 (c : Int) (by rw [Tryz.underlying5]; rfl) Tryz.underlying9
  rw [enc_ascii c h] at this
  exact this
theorem add_bytes (x y : List UInt8) (h : x.length + y.length ≤ 1000) (W : World) : (Op.stringOp .add ⟨x.toArray⟩ ⟨y.toArray⟩).run Tryz.prog W = .ok (.string ⟨(x ++ y).toArray⟩) W :=
  run_string_add_lists (P := Tryz.prog) W x y (by omega) (by omega)

/-- A slice of numbers that is only read. -/
def ArgI (w : World) (v : Value) (zs : List Int) : Prop :=
  (∃ ao cap, v = .slice ao 0 cap ∧ zs = []) ∨ ∃ (b off cap : Nat), v = .slice (some ⟨b, off, none⟩) zs.length cap ∧ b < w.heap.size ∧ ∀ (i : Nat) (z : Int), zs[i]? = some z → w.cell? ⟨b, off + i, none⟩ = some (.int .i64 z)
theorem ArgI.below {w w' : World} {v : Value} {zs : List Int} (h : ArgI w v zs) (hb : Below w.heap.size w w') : ArgI w' v zs := by
  rcases h with h | ⟨b, off, cap, h1, h2, h3⟩
  · exact .inl h
  · exact .inr ⟨b, off, cap, h1, Nat.lt_of_lt_of_le h2 hb.size, fun i z hz => (hb.cell (p := ⟨b, off + i, none⟩) h2).trans (h3 i z hz)⟩
def okZ (z : Int) : Bool := decide (0 ≤ z) && decide (z ≤ 1114111)
/-- Write's answer. -/
def writeI (zs : List Int) : List UInt8 × Int := if zs.all okZ = true then (34 :: (wrL false (zs.map Int.toNat) ++ [34]), 0) else ([], 1)
theorem ok_z (z : Int) (h : okZ z = true) : 0 ≤ z ∧ z ≤ 1114111 := by
  unfold okZ at h
  rw [Bool.and_eq_true, decide_eq_true_eq, decide_eq_true_eq] at h
  exact h
theorem not_ok_z (z : Int) (h : okZ z = false) : z < 0 ∨ 1114111 < z := by
  unfold okZ at h
  rw [Bool.and_eq_false_iff, decide_eq_false_iff_not, decide_eq_false_iff_not] at h
  omega
/-- One more character written. -/
def wrP (b : Bool) (c : Nat) : List UInt8 := (if b = true ∧ isDig c = true then [92, 38] else []) ++ wr1 c
theorem wrL_cons (b : Bool) (c : Nat) (l : List Nat) : wrL b (c :: l) = wrP b c ++ wrL (isNum c) l := by
  rw [wrL, wrP, List.append_assoc]
theorem wrP_len (b : Bool) (c : Nat) (hc : c ≤ 1114111) : (wrP b c).length ≤ 8 := by
  obtain ⟨a, d⟩ := wr1_len c hc
  unfold wrP
  rw [List.length_append]
  split
  · rename_i q
    have := d q.2
    simp
    omega
  · simp
    omega
end Go.Proofs.YtkehchajgdepaaaGreatDoor.Qt
/-
  The contracts of the document's SameInts, and of what the statements of this layer ask first. Conditions: the library's table of powers of ten and the program's list of names stand.
-/
namespace Go.Proofs.YtkehchajgdepaaaGreatDoor.Qt
open Go.RowKit Gly
set_option linter.unusedSimpArgs false
set_option linter.unusedVariables false

theorem ArgI.len {w : World} {v : Value} {zs : List Int} (h : ArgI w v zs) : ∃ ao cap, v = .slice ao zs.length cap := by
  rcases h with ⟨ao, cap, rfl, rfl⟩ | ⟨b, off, cap, rfl, -, -⟩
  · exact ⟨ao, cap, rfl⟩
  · exact ⟨_, cap, rfl⟩
theorem Ints.arg {w : World} {B : Nat} {v : Value} {xs : List Nat} (h : Ints w B v xs) : ArgI w v (xs.map fun (x : Nat) => (x : Int)) := by
  rcases h.shape with ⟨rfl, rfl⟩ | ⟨g, cap, rfl, hg, hl⟩
  · exact .inl ⟨none, 0, rfl, rfl⟩
  · refine .inr ⟨g, 0, cap, by rw [List.length_map], hl, fun i z hz => ?_⟩
    rw [List.getElem?_map, Option.map_eq_some_iff] at hz
    obtain ⟨x, hx, rfl⟩ := hz
    obtain ⟨hi, hx2⟩ := List.getElem?_eq_some_iff.1 hx
    rw [Nat.zero_add]
    have := Ints.at' h i hi hi
    rw [this, hx2]
theorem arg_lit (w : World) (a b c : Int) : ArgI (w.alloc (.cells #[.int .i64 a, .int .i64 b, .int .i64 c] 3)) (.slice (some ⟨w.heap.size, 0, none⟩) 3 3) [a, b, c] := by
  refine .inr ⟨w.heap.size, 0, 3, rfl, by rw [World.size_alloc]; omega, fun i z hz => ?_⟩
  rw [Nat.zero_add, cell_of_row _ _ i _ _ _ (heap_alloc_new w _)]
  match i, hz with
  | 0, hz => simp at hz; subst hz; rfl
  | 1, hz => simp at hz; subst hz; rfl
  | 2, hz => simp at hz; subst hz; rfl
  | i + 3, hz => simp at hz

theorem aw1 : scanI ⟨#[39, 97, 39, 32, 98]⟩ 0 = (13, 3, 0) := by decide +kernel
theorem aw2 : wholeL (rest ⟨#[34, 92, 83, 79, 72, 92, 83, 79, 92, 38, 72, 34]⟩ 0) = 0 ∧ runesL (rest ⟨#[34, 92, 83, 79, 72, 92, 83, 79, 92, 38, 72, 34]⟩ 0) = [1, 14, 72] ∧ (chs (readL (rest ⟨#[34, 92, 83, 79, 72, 92, 83, 79, 92, 38, 72, 34]⟩ 0)).ps).length ≤ 100 := by decide +kernel
theorem aw3 : writeI [7, 200, 49] = ([34, 92, 97, 92, 50, 48, 48, 92, 38, 49, 34], 0) := by decide +kernel
end Go.Proofs.YtkehchajgdepaaaGreatDoor.Qt
/-
  The walks of the statements QuoteAlone and QuoteBack. Conditions: the string of QuoteAlone has at most 2^20 bytes; the numbers of QuoteBack take at most 2^47 - 4096 bytes; the library's table of powers of ten and the program's list of names stand.
-/
namespace Go.Proofs.YtkehchajgdepaaaGreatDoor.Qt
open Go.RowKit Gly
set_option linter.unusedSimpArgs false
set_option linter.unusedVariables false

theorem count_txt : ∀ (f : Nat) (L : List UInt8), (txtL f L).ps.length ≤ L.length
  | 0, _ => Nat.zero_le _
  | f + 1, L => by
    unfold txtL
    split
    · exact Nat.zero_le _
    · cases hp : pieceL L with
      | error e => exact Nat.zero_le _
      | ok p =>
        obtain ⟨l1, l2, l3⟩ := piece_len L p hp
        have := count_txt f (L.drop p.bytes.length)
        rw [List.length_drop] at this
        dsimp only
        rw [List.length_cons]
        omega
theorem count_read (L : List UInt8) : (chs (readL L).ps).length ≤ L.length + 1 := by
  refine Nat.le_trans (chs_len _) ?_
  unfold readL
  split
  · unfold chrL
    split
    · simp
    · cases hp : pieceL (L.drop 1) with
      | error e => simp
      | ok p =>
        dsimp only
        split
        · simp
        · split <;> simp
  · have := count_txt L.length (L.drop 1)
    rw [List.length_drop] at this
    omega
theorem scan_cases (s : ByteArray) (i : Int) : (scanI s i).1 = 0 ∨ ∃ n : Nat, i = (n : Int) ∧ n < s.size ∧ quoted (rest s n) = true ∧ (readL (rest s n)).err = 0 ∧ scanI s i = (if hd (rest s n) = 39 then 13 else 14, ((n + 1 + (readL (rest s n)).pos : Nat) : Int), 0) := by
  unfold scanI
  by_cases h0 : 0 ≤ i
  · rw [if_pos h0]
    obtain ⟨n, rfl⟩ := Int.eq_ofNat_of_zero_le h0
    rw [Int.toNat_natCast]
    cases hq : quoted (rest s n) with
    | false =>
      left
      unfold scanL
      rw [if_neg (by rw [hq]; decide)]
    | true =>
      by_cases he : (readL (rest s n)).err = 0
      · right
        refine ⟨n, rfl, ?_, hq, he, ?_⟩
        · rcases Nat.lt_or_ge n s.size with h | h
          · exact h
          · unfold quoted at hq
            rw [hd_rest_out s n h] at hq
            exact absurd hq (by decide)
        · unfold scanL
          rw [if_pos hq, he, if_pos rfl]
      · left
        unfold scanL
        rw [if_pos hq, if_neg he]
  · rw [if_neg h0]
    exact .inl rfl
theorem nat_back : ∀ zs : List Int, zs.all okZ = true → (zs.map Int.toNat).map (fun (x : Nat) => (x : Int)) = zs ∧ ∀ c ∈ zs.map Int.toNat, c ≤ 1114111
  | [], _ => ⟨rfl, by simp⟩
  | z :: zs, h => by
    rw [List.all_cons, Bool.and_eq_true] at h
    obtain ⟨h1, h2⟩ := nat_back zs h.2
    obtain ⟨z0, z1⟩ := ok_z z h.1
    refine ⟨by rw [List.map_cons, List.map_cons, h1, Int.toNat_of_nonneg z0], ?_⟩
    intro c hc
    rw [List.map_cons, List.mem_cons] at hc
    rcases hc with rfl | hc
    · omega
    · exact h2 c hc
end Go.Proofs.YtkehchajgdepaaaGreatDoor.Qt
