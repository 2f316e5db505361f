/-
  The contracts of package word's qualify, scan, Scan, whole, Kind. Condition: the string has at most 2^50 bytes.
-/
import Derived.Test.YtkabgeimcpkpgaaWrdCode
import Derived.Deep.RegionWith
import Derived.Deep.DrawnRows
import Derived.Deep.RegionHeld3
namespace Go.Proofs.Ytkabgeimcpkpgaa.Wrd
open Go.RowKit Gly
set_option linter.unusedSimpArgs false

theorem rest_head (s : ByteArray) (n : Nat) (h : n < s.size) : (((rest s n).getD 0 0).toNat) = s[n].toNat := by
  have hl := Lib.size_eq s
  unfold rest
  rw [Lib.getD_dropU, Nat.add_zero, List.getD_eq_getElem?_getD, List.getElem?_eq_getElem (by omega)]
  rfl
theorem head_46 (s : ByteArray) (n : Nat) (h : n < s.size) : (rest s n).getD 0 0 = 46 ↔ s[n].toNat = 46 := by
  rw [← rest_head s n h]
  constructor
  · intro e
    rw [e]
    rfl
  · intro e
    exact UInt8.toNat_inj.1 e
theorem partI_le (s : ByteArray) (n : Nat) (h : n ≤ s.size) : partI s (n : Int) = ((part (rest s n)).1, if (part (rest s n)).1 = 0 then 0 else ((n + (part (rest s n)).2 : Nat) : Int)) := by
  unfold partI
  rw [if_pos (by omega), Int.toNat_natCast]
  rfl
/-- qualify's answer. -/
def qualI (s : ByteArray) (a : Nat) : Int × Int × Int := if (more (rest s a)).1 = 0 then (0, 0, 0) else ((more (rest s a)).1, ((a + (more (rest s a)).2 : Nat) : Int), (a : Int))

/-- A block that holds a lexeme. -/
def Trio (w : World) (g : Nat) (t : Int × Int × Int) : Prop := w.heap[g]? = some (.cells #[.int .i64 t.1, .int .i64 t.2.1, .int .i64 t.2.2] 34 (0, 0))
theorem Trio.c0 {w : World} {g : Nat} {t : Int × Int × Int} (h : Trio w g t) : w.cell? ⟨g, 0, none⟩ = some (.int .i64 t.1) := by rw [cell_of_row w g 0 _ _ _ h]; rfl
theorem Trio.c1 {w : World} {g : Nat} {t : Int × Int × Int} (h : Trio w g t) : w.cell? ⟨g, 1, none⟩ = some (.int .i64 t.2.1) := by rw [cell_of_row w g 1 _ _ _ h]; rfl
theorem Trio.c2 {w : World} {g : Nat} {t : Int × Int × Int} (h : Trio w g t) : w.cell? ⟨g, 2, none⟩ = some (.int .i64 t.2.2) := by rw [cell_of_row w g 2 _ _ _ h]; rfl
theorem Trio.free {w : World} {g : Nat} {t : Int × Int × Int} (h : Trio w g t) (i : Nat) : w.frozen? ⟨g, i, none⟩ = false := by unfold Trio at h; simp [World.frozen?, h]
theorem Trio.lt {w : World} {g : Nat} {t : Int × Int × Int} (h : Trio w g t) : g < w.heap.size := lt_of_block h
theorem Trio.below {B : Nat} {w w' : World} {g : Nat} {t : Int × Int × Int} (h : Trio w g t) (hb : Below B w w') (hg : g < B) : Trio w' g t := (hb.block g hg).trans h
theorem Trio.new (w : World) (t : Int × Int × Int) : Trio (w.alloc (.cells #[.int .i64 t.1, .int .i64 t.2.1, .int .i64 t.2.2] 34)) w.heap.size t := heap_alloc_new w _
theorem Trio.set {w : World} {g : Nat} {t t' : Int × Int × Int} (h : Trio w g t) : Trio (((w.setCell ⟨g, 0, none⟩ (.int .i64 t'.1)).setCell ⟨g, 1, none⟩ (.int .i64 t'.2.1)).setCell ⟨g, 2, none⟩ (.int .i64 t'.2.2)) g t' := by
  unfold Trio at h ⊢
  simp [World.setCell, Array.getElem?_modify, h]

theorem Trio.store {w0 w : World} {B g : Nat} {t : Int × Int × Int} (h : Trio w g t) (hb : Below B w0 w) (hg : B ≤ g) (a b c : Int) :
    Trio (((w.setCell ⟨g, 0, none⟩ (.int .i64 a)).setCell ⟨g, 1, none⟩ (.int .i64 b)).setCell ⟨g, 2, none⟩ (.int .i64 c)) g (a, b, c) ∧
    Below B w0 (((w.setCell ⟨g, 0, none⟩ (.int .i64 a)).setCell ⟨g, 1, none⟩ (.int .i64 b)).setCell ⟨g, 2, none⟩ (.int .i64 c)) ∧
    (∀ j, j ≠ g → (((w.setCell ⟨g, 0, none⟩ (.int .i64 a)).setCell ⟨g, 1, none⟩ (.int .i64 b)).setCell ⟨g, 2, none⟩ (.int .i64 c)).heap[j]? = w.heap[j]?) ∧
    (((w.setCell ⟨g, 0, none⟩ (.int .i64 a)).setCell ⟨g, 1, none⟩ (.int .i64 b)).setCell ⟨g, 2, none⟩ (.int .i64 c)).heap.size = w.heap.size := by
  refine ⟨h.set (t' := (a, b, c)), ((hb.setCell (by exact hg) _).setCell (by exact hg) _).setCell (by exact hg) _, fun j hj => ?_, ?_⟩
  · rw [Below.heap_setCell _ _ _ _ hj, Below.heap_setCell _ _ _ _ hj, Below.heap_setCell _ _ _ _ hj]
  · simp
theorem qualify_any (s : ByteArray) (a : Nat) (hs : s.size ≤ 1125899906842624) (ha : a ≤ s.size) (w : World) :
    Calls Try.prog 30 #[.string s, .int .i64 (a : Int)] w fun e w' => e = .returned (.agg #[.int .i64 (qualI s a).1, .int .i64 (qualI s a).2.1, .int .i64 (qualI s a).2.2]) ∧ Below w.heap.size w w' := by
  have tn := Trio.new w (0, 0, 0)
  by_cases h1 : a < s.size
  · by_cases h2 : s[a].toNat = 46
    · have h46 := (head_46 s a h1).2 h2
      have hp := partI_le s (a + 1) (by omega)
      have hd : (rest s a).drop 1 = rest s (a + 1) := rest_drop s a 1
      have hle := part_le (rest s (a + 1))
      have hl := rest_len s (a + 1)
      by_cases h3 : qual (part (rest s (a + 1))).1 = 0
      · have HQ : Hid (qualI s a = (0, 0, 0)) := by
          unfold Hid qualI
          rcases more_cases (rest s a) with ⟨e, _⟩ | ⟨_, _, q, _⟩
          · rw [e]
            rfl
          · rw [hd] at q
            exact absurd h3 q
        generalize (if (part (rest s (a + 1))).1 = 0 then (0 : Int) else ((a + 1 + (part (rest s (a + 1))).2 : Nat) : Int)) = ee at hp
        generalize (part (rest s (a + 1))).1 = kk at hp h3
        have H3 := Lib.hid h3
        have HP := Lib.hid hp
        clear h46 hp hd h3 hle hl
        go_enter Try.func30, Try.ntmps30
        go_wp2_with fail
        refine (part_any s ((a + 1 : Nat) : Int) hs _).mono ?_
        rintro e w1 ⟨rfl, hb1⟩
        have T1 : Hid (Trio w1 w.heap.size (0, 0, 0)) := tn.below hb1 tn.lt
        have HB1 : Hid (Below w.heap.size w w1) := ((Below.refl _ _).alloc (Nat.le_refl _) _).trans (hb1.mono (by rw [World.size_alloc]; omega))
        have y0 := T1.out.c0
        have y1 := T1.out.c1
        have y2 := T1.out.c2
        have y3 := T1.out.free 0
        have y4 := T1.out.free 1
        have y5 := T1.out.free 2
        clear hb1
        rw [HP.out]
        go_wp2_with fail
        refine (qualified_any _ _).mono ?_
        rintro e w2 ⟨rfl, rfl⟩
        rw [H3.out]
        go_wp2_with fail
        obtain ⟨t2, b2, -⟩ := T1.out.store HB1.out (Nat.le_refl _) 0 0 0
        have T2 := Lib.hid t2
        have B2 := Lib.hid b2
        clear t2 b2
        generalize ((w1.setCell ⟨w.heap.size, 0, none⟩ (.int .i64 0)).setCell ⟨w.heap.size, 1, none⟩ (.int .i64 0)).setCell ⟨w.heap.size, 2, none⟩ (.int .i64 0) = W3 at *
        have z0 := T2.out.c0
        have z1 := T2.out.c1
        have z2 := T2.out.c2
        dsimp only at z0 z1 z2
        refine bodyPost_ret (by simp [results, Try.results30, go_sem, z0, z1, z2]; try rfl) rfl ?_
        exact ⟨by rw [HQ.out], B2.out⟩
      · have HQ : Hid (qualI s a = (qual (part (rest s (a + 1))).1, ((a + 1 + (part (rest s (a + 1))).2 : Nat) : Int), (a : Int))) := by
          unfold Hid qualI
          rcases more_cases (rest s a) with ⟨_, q | q | q⟩ | ⟨_, _, q, e⟩
          · exact absurd q (rest_ne s a h1)
          · exact absurd h46 q
          · rw [hd] at q
            exact absurd q h3
          · rw [hd] at e q
            rw [e, if_neg q, ← Nat.add_assoc]
        have h4 : (part (rest s (a + 1))).1 ≠ 0 := by
          intro z
          rw [z] at h3
          exact h3 rfl
        rw [if_neg h4] at hp
        generalize ((a + 1 + (part (rest s (a + 1))).2 : Nat) : Int) = ee at hp HQ
        generalize (part (rest s (a + 1))).1 = kk at hp h3 HQ
        have b3 : (qual kk == 0) = false := by rw [beq_eq_false_iff_ne]; exact h3
        have HP := Lib.hid hp
        clear h46 hp hd h3 h4 hle hl
        go_enter Try.func30, Try.ntmps30
        go_wp2_with fail
        refine (part_any s ((a + 1 : Nat) : Int) hs _).mono ?_
        rintro e w1 ⟨rfl, hb1⟩
        have T1 : Hid (Trio w1 w.heap.size (0, 0, 0)) := tn.below hb1 tn.lt
        have HB1 : Hid (Below w.heap.size w w1) := ((Below.refl _ _).alloc (Nat.le_refl _) _).trans (hb1.mono (by rw [World.size_alloc]; omega))
        have y0 := T1.out.c0
        have y1 := T1.out.c1
        have y2 := T1.out.c2
        have y3 := T1.out.free 0
        have y4 := T1.out.free 1
        have y5 := T1.out.free 2
        clear hb1
        rw [HP.out]
        go_wp2_with fail
        refine (qualified_any _ _).mono ?_
        rintro e w2 ⟨rfl, rfl⟩
        go_wp2_with fail
        obtain ⟨t2, b2, -⟩ := T1.out.store HB1.out (Nat.le_refl _) (qual kk) ee (a : Int)
        have T2 := Lib.hid t2
        have B2 := Lib.hid b2
        clear t2 b2
        generalize ((w1.setCell ⟨w.heap.size, 0, none⟩ (.int .i64 (qual kk))).setCell ⟨w.heap.size, 1, none⟩ (.int .i64 ee)).setCell ⟨w.heap.size, 2, none⟩ (.int .i64 (a : Int)) = W3 at *
        have z0 := T2.out.c0
        have z1 := T2.out.c1
        have z2 := T2.out.c2
        dsimp only at z0 z1 z2
        refine bodyPost_ret (by simp [results, Try.results30, go_sem, z0, z1, z2]; try rfl) rfl ?_
        exact ⟨by rw [HQ.out], B2.out⟩
    · have hd := fun h => h2 ((head_46 s a h1).1 h)
      have HQ : Hid (qualI s a = (0, 0, 0)) := by
        unfold Hid qualI
        rcases more_cases (rest s a) with ⟨e, _⟩ | ⟨_, q, _⟩
        · rw [e]
          rfl
        · exact absurd q hd
      have b2 : (((s[a].toNat : Nat) : Int) != 46) = true := by rw [bne_iff_ne]; omega
      clear hd h2
      go_enter Try.func30, Try.ntmps30
      go_wp2_with fail
      go_returns
      exact ⟨by rw [HQ.out], by go_grown⟩
  · have HQ : Hid (qualI s a = (0, 0, 0)) := by
      unfold Hid qualI
      rw [rest_nil s a (by omega), if_pos more_nil]
    go_enter Try.func30, Try.ntmps30
    go_wp2_with fail
    go_returns
    exact ⟨by rw [HQ.out], by go_grown⟩

/-- What scan has found: kind, end, point (0: none). -/
def lexI (n : Nat) (t : Int × Nat × Nat) : Int × Int × Int := if t.1 = 0 then (0, 0, 0) else (t.1, ((n + t.2.1 : Nat) : Int), if t.2.2 = 0 then 0 else ((n + t.2.2 : Nat) : Int))
def scanI (s : ByteArray) (i : Int) : Int × Int × Int := if 0 ≤ i ∧ i ≤ s.size then lexI i.toNat (scan (rest s i.toNat)) else (0, 0, 0)

theorem scanI_at (s : ByteArray) (i : Int) : ∃ n : Nat, n ≤ s.size ∧ partI s i = ((part (rest s n)).1, if (part (rest s n)).1 = 0 then 0 else ((n + (part (rest s n)).2 : Nat) : Int)) ∧ scanI s i = lexI n (scan (rest s n)) := by
  by_cases h : 0 ≤ i ∧ i ≤ s.size
  · obtain ⟨n, rfl⟩ := Int.eq_ofNat_of_zero_le h.1
    refine ⟨n, by omega, partI_le s n (by omega), ?_⟩
    unfold scanI
    rw [if_pos h, Int.toNat_natCast]
  · refine ⟨s.size, Nat.le_refl _, ?_, ?_⟩
    · rw [partI_out s i (by omega), rest_nil s s.size (Nat.le_refl _)]
      rfl
    · unfold scanI
      rw [if_neg h, rest_nil s s.size (Nat.le_refl _)]
      rfl
/-- The end that a lexeme's block holds. -/
def endOf (w : World) (g : Nat) : Nat := (((w.cell? ⟨g, 1, none⟩).map intOf).getD 0).toNat
theorem Trio.endOf {w : World} {g : Nat} {t : Int × Int × Int} (h : Trio w g t) : Wrd.endOf w g = t.2.1.toNat := by
  unfold Wrd.endOf
  rw [h.c1]
  rfl

theorem scan_any (s : ByteArray) (i : Int) (hs : s.size ≤ 1125899906842624) (w : World) :
    Calls Try.prog 19 #[.string s, .int .i64 i] w fun e w' => e = .returned (.agg #[.int .i64 (scanI s i).1, .int .i64 (scanI s i).2.1, .int .i64 (scanI s i).2.2]) ∧ Below w.heap.size w w' := by
  have tn := Trio.new w (0, 0, 0)
  obtain ⟨n, hn, hp, hr⟩ := scanI_at s i
  have hl := rest_len s n
  have HR := Lib.hid hr
  have hst : ∃ kk ee : Int, partI s i = (kk, ee) ∧ (kk, ee, (0 : Int)) = lexI n ((part (rest s n)).1, (part (rest s n)).2, 0) := by
    refine ⟨_, _, hp, ?_⟩
    unfold lexI
    by_cases h : (part (rest s n)).1 = 0
    · rw [if_pos h, if_pos h, h]
    · rw [if_neg h, if_neg h]
      rfl
  obtain ⟨kk, ee, hp', hst⟩ := hst
  have HP := Lib.hid hp'
  have HST := Lib.hid hst
  clear hp hr hp' hst
  go_enter Try.func19, Try.ntmps19
  go_wp2_with fail
  refine (part_any s i hs _).mono ?_
  rintro e w1 ⟨rfl, hb1⟩
  have T1 : Hid (Trio w1 w.heap.size (0, 0, 0)) := tn.below hb1 tn.lt
  have HB1 : Hid (Below w.heap.size w w1) := ((Below.refl _ _).alloc (Nat.le_refl _) _).trans (hb1.mono (by rw [World.size_alloc]; omega))
  clear hb1
  rw [HP.out]
  go_wp2_with fail
  go_loopw [8] (fun _ wr => ∃ (k : Int) (m p f : Nat), Trio wr w1.heap.size (lexI n (k, m, p)) ∧ Trio wr w.heap.size (0, 0, 0) ∧ Below w.heap.size w wr ∧ grow f (rest s n) k m p = scan (rest s n) ∧ s.size ≤ n + m + f ∧ (k ≠ 0 → 1 ≤ m ∧ n + m ≤ s.size)) (fun _ wr => s.size - endOf wr w1.heap.size)
  case atStart =>
    refine ⟨(part (rest s n)).1, (part (rest s n)).2, 0, (rest s n).length, ?_, ?_, ?_, rfl, by omega, fun h => ⟨part_pos _ h, by have := part_le (rest s n); omega⟩⟩
    · rw [← HST.out]
      exact Trio.new w1 (kk, ee, 0)
    · exact T1.out.below ((Below.refl _ _).alloc (Nat.le_refl _) _) T1.out.lt
    · exact HB1.out.trans (((Below.refl _ _).alloc (Nat.le_refl _) _).mono HB1.out.size)
  case round =>
    obtain ⟨k, m, p, f, ht, hz, hbw, hq, hf, hkm⟩ := hrel
    have HT := Lib.hid ht
    have HZ := Lib.hid hz
    have HBW := Lib.hid hbw
    have HQ := Lib.hid hq
    clear ht hz hbw hq
    by_cases hk : k = 2 ∨ k = 4
    · rcases hk with rfl | rfl
      · have hE : ∃ am E2 : Int, am = ((n + m : Nat) : Int) ∧ lexI n (2, m, p) = (2, am, E2) := ⟨_, _, rfl, by unfold lexI; rw [if_neg (by dsimp only; decide)]⟩
        obtain ⟨am, E2, ham, hE⟩ := hE
        obtain ⟨hm1, hm2⟩ := hkm (by decide)
        have c0 := fun W => qualify_any s (n + m) hs hm2 W
        rw [← ham] at c0
        have HAM := Lib.hid ham
        have ht := HT.out
        rw [hE] at ht
        have HT' := Lib.hid ht
        have HE := Lib.hid hE
        clear ht hE HT hkm ham
        have x0 := HT'.out.c0
        have x1 := HT'.out.c1
        have x2 := HT'.out.c2
        dsimp only at x0 x1 x2
        by_cases hmo : (more (rest s (n + m))).1 = 0
        · have hq : qualI s (n + m) = (0, 0, 0) := by unfold qualI; rw [if_pos hmo]
          have FIN := Lib.hid (grow_final f (rest s n) 2 m p (.inr (by rw [rest_drop]; exact hmo)))
          rw [hq] at c0
          have C0 := Lib.hid c0
          clear hmo hq c0
          go_wp2_with fail
          refine (C0.out _).mono ?_
          rintro e w2 ⟨rfl, hb2⟩
          have T2 : Hid (Trio w2 w1.heap.size (2, am, E2)) := HT'.out.below hb2 HT'.out.lt
          have Z2 : Hid (Trio w2 w.heap.size (0, 0, 0)) := HZ.out.below hb2 HZ.out.lt
          have B2 : Hid (Below w.heap.size w w2) := HBW.out.trans (hb2.mono HBW.out.size)
          have L2 : Hid (w.heap.size < w2.heap.size) := Z2.out.lt
          clear hb2 x0 x1 x2
          have TW : Hid (Trio (w2.alloc (.cells #[.int .i64 0, .int .i64 0, .int .i64 0] 34)) w1.heap.size (2, am, E2)) := T2.out.below ((Below.refl _ _).alloc (Nat.le_refl _) _) T2.out.lt
          have ZW : Hid (Trio (w2.alloc (.cells #[.int .i64 0, .int .i64 0, .int .i64 0] 34)) w.heap.size (0, 0, 0)) := Z2.out.below ((Below.refl _ _).alloc (Nat.le_refl _) _) Z2.out.lt
          have BW : Hid (Below w.heap.size w (w2.alloc (.cells #[.int .i64 0, .int .i64 0, .int .i64 0] 34))) := B2.out.alloc (Nat.le_of_lt L2.out) _
          have NW : Hid (Trio (w2.alloc (.cells #[.int .i64 0, .int .i64 0, .int .i64 0] 34)) w2.heap.size (0, 0, 0)) := Trio.new w2 (0, 0, 0)
          have x0 := TW.out.c0
          have x1 := TW.out.c1
          have x2 := TW.out.c2
          have x3 := TW.out.free 0
          have x4 := TW.out.free 1
          have x5 := TW.out.free 2
          have z0 := ZW.out.free 0
          have z1 := ZW.out.free 1
          have z2 := ZW.out.free 2
          have z3 := ZW.out.c0
          have z4 := ZW.out.c1
          have z5 := ZW.out.c2
          have y0 := NW.out.c0
          have y1 := NW.out.c1
          have y2 := NW.out.c2
          dsimp only at x0 x1 x2 z3 z4 z5 y0 y1 y2
          go_wp2_with fail
          obtain ⟨t9, b9, -⟩ := ZW.out.store BW.out (Nat.le_refl _) 2 am E2
          have T9 := Lib.hid t9
          have B9 := Lib.hid b9
          clear t9 b9
          generalize (((w2.alloc (.cells #[.int .i64 0, .int .i64 0, .int .i64 0] 34)).setCell ⟨w.heap.size, 0, none⟩ (.int .i64 2)).setCell ⟨w.heap.size, 1, none⟩ (.int .i64 am)).setCell ⟨w.heap.size, 2, none⟩ (.int .i64 E2) = W3 at T9 B9 ⊢
          have v0 := T9.out.c0
          have v1 := T9.out.c1
          have v2 := T9.out.c2
          dsimp only at v0 v1 v2
          refine bodyPost_ret (by simp [results, Try.results19, go_sem, v0, v1, v2]; try rfl) rfl ?_
          exact ⟨by rw [HR.out, ← HQ.out, FIN.out, HE.out], B9.out⟩
        · have hq : qualI s (n + m) = ((more (rest s (n + m))).1, ((n + m + (more (rest s (n + m))).2 : Nat) : Int), ((n + m : Nat) : Int)) := by unfold qualI; rw [if_neg hmo]
          obtain ⟨hp1, hp2, -⟩ := more_pos _ hmo
          rw [rest_len] at hp2
          have HMR : Hid ((rest s n).drop m = rest s (n + m)) := rest_drop s n m
          rw [hq, ← HAM.out] at c0
          generalize hmm : more (rest s (n + m)) = mm at *
          obtain ⟨kn, ln⟩ := mm
          have HMM := Lib.hid hmm
          dsimp only at c0 hmo hp1 hp2
          have b3 : (kn == 0) = false := by rw [beq_eq_false_iff_ne]; exact hmo
          have HMO := Lib.hid hmo
          have hen : ∃ en : Int, en = ((n + m + ln : Nat) : Int) := ⟨_, rfl⟩
          obtain ⟨en, hen⟩ := hen
          rw [← hen] at c0
          have HEN := Lib.hid hen
          have C0 := Lib.hid c0
          clear hmo hq c0 hen hmm
          go_wp2_with fail
          refine (C0.out _).mono ?_
          rintro e w2 ⟨rfl, hb2⟩
          have T2 : Hid (Trio w2 w1.heap.size (2, am, E2)) := HT'.out.below hb2 HT'.out.lt
          have Z2 : Hid (Trio w2 w.heap.size (0, 0, 0)) := HZ.out.below hb2 HZ.out.lt
          have B2 : Hid (Below w.heap.size w w2) := HBW.out.trans (hb2.mono HBW.out.size)
          have L2 : Hid (w.heap.size < w2.heap.size) := Z2.out.lt
          clear hb2 x0 x1 x2
          have TW : Hid (Trio (w2.alloc (.cells #[.int .i64 kn, .int .i64 en, .int .i64 am] 34)) w1.heap.size (2, am, E2)) := T2.out.below ((Below.refl _ _).alloc (Nat.le_refl _) _) T2.out.lt
          have ZW : Hid (Trio (w2.alloc (.cells #[.int .i64 kn, .int .i64 en, .int .i64 am] 34)) w.heap.size (0, 0, 0)) := Z2.out.below ((Below.refl _ _).alloc (Nat.le_refl _) _) Z2.out.lt
          have BW : Hid (Below w.heap.size w (w2.alloc (.cells #[.int .i64 kn, .int .i64 en, .int .i64 am] 34))) := B2.out.alloc (Nat.le_of_lt L2.out) _
          have NW : Hid (Trio (w2.alloc (.cells #[.int .i64 kn, .int .i64 en, .int .i64 am] 34)) w2.heap.size (kn, en, am)) := Trio.new w2 (kn, en, am)
          have x0 := TW.out.c0
          have x1 := TW.out.c1
          have x2 := TW.out.c2
          have x3 := TW.out.free 0
          have x4 := TW.out.free 1
          have x5 := TW.out.free 2
          have z0 := ZW.out.free 0
          have z1 := ZW.out.free 1
          have z2 := ZW.out.free 2
          have z3 := ZW.out.c0
          have z4 := ZW.out.c1
          have z5 := ZW.out.c2
          have y0 := NW.out.c0
          have y1 := NW.out.c1
          have y2 := NW.out.c2
          dsimp only at x0 x1 x2 z3 z4 z5 y0 y1 y2
          go_wp2_with fail
          obtain ⟨t9, b9, o9, -⟩ := TW.out.store BW.out HB1.out.size kn en am
          have Z9 : Hid (Trio ((((w2.alloc (.cells #[.int .i64 kn, .int .i64 en, .int .i64 am] 34)).setCell ⟨w1.heap.size, 0, none⟩ (.int .i64 kn)).setCell ⟨w1.heap.size, 1, none⟩ (.int .i64 en)).setCell ⟨w1.heap.size, 2, none⟩ (.int .i64 am)) w.heap.size (0, 0, 0)) := (o9 _ (Nat.ne_of_lt T1.out.lt)).trans ZW.out
          have T9 := Lib.hid t9
          have B9 := Lib.hid b9
          clear t9 b9 o9
          generalize (((w2.alloc (.cells #[.int .i64 kn, .int .i64 en, .int .i64 am] 34)).setCell ⟨w1.heap.size, 0, none⟩ (.int .i64 kn)).setCell ⟨w1.heap.size, 1, none⟩ (.int .i64 en)).setCell ⟨w1.heap.size, 2, none⟩ (.int .i64 am) = W3 at T9 B9 Z9 ⊢
          refine ⟨?_, ?_⟩
          · have e9 : lexI n (kn, m + ln, m) = (kn, en, am) := by
              unfold lexI
              rw [if_neg HMO.out, HEN.out, HAM.out]
              dsimp only
              rw [if_neg (by omega), ← Nat.add_assoc]
            refine ⟨kn, m + ln, m, f - 1, by rw [e9]; exact T9.out, Z9.out, B9.out, ?_, by omega, fun _ => by omega⟩
            cases f with
            | zero => exfalso; omega
            | succ f =>
              rw [← HQ.out, grow_next f (rest s n) 2 m p (by decide) (by rw [HMR.out, HMM.out]; exact HMO.out), HMR.out, HMM.out]
              rfl
          · rw [T9.out.endOf, HT'.out.endOf]
            have h1 := HEN.out
            have h2 := HAM.out
            dsimp only
            omega
      · have hE : ∃ am E2 : Int, am = ((n + m : Nat) : Int) ∧ lexI n (4, m, p) = (4, am, E2) := ⟨_, _, rfl, by unfold lexI; rw [if_neg (by dsimp only; decide)]⟩
        obtain ⟨am, E2, ham, hE⟩ := hE
        obtain ⟨hm1, hm2⟩ := hkm (by decide)
        have c0 := fun W => qualify_any s (n + m) hs hm2 W
        rw [← ham] at c0
        have HAM := Lib.hid ham
        have ht := HT.out
        rw [hE] at ht
        have HT' := Lib.hid ht
        have HE := Lib.hid hE
        clear ht hE HT hkm ham
        have x0 := HT'.out.c0
        have x1 := HT'.out.c1
        have x2 := HT'.out.c2
        dsimp only at x0 x1 x2
        by_cases hmo : (more (rest s (n + m))).1 = 0
        · have hq : qualI s (n + m) = (0, 0, 0) := by unfold qualI; rw [if_pos hmo]
          have FIN := Lib.hid (grow_final f (rest s n) 4 m p (.inr (by rw [rest_drop]; exact hmo)))
          rw [hq] at c0
          have C0 := Lib.hid c0
          clear hmo hq c0
          go_wp2_with fail
          refine (C0.out _).mono ?_
          rintro e w2 ⟨rfl, hb2⟩
          have T2 : Hid (Trio w2 w1.heap.size (4, am, E2)) := HT'.out.below hb2 HT'.out.lt
          have Z2 : Hid (Trio w2 w.heap.size (0, 0, 0)) := HZ.out.below hb2 HZ.out.lt
          have B2 : Hid (Below w.heap.size w w2) := HBW.out.trans (hb2.mono HBW.out.size)
          have L2 : Hid (w.heap.size < w2.heap.size) := Z2.out.lt
          clear hb2 x0 x1 x2
          have TW : Hid (Trio (w2.alloc (.cells #[.int .i64 0, .int .i64 0, .int .i64 0] 34)) w1.heap.size (4, am, E2)) := T2.out.below ((Below.refl _ _).alloc (Nat.le_refl _) _) T2.out.lt
          have ZW : Hid (Trio (w2.alloc (.cells #[.int .i64 0, .int .i64 0, .int .i64 0] 34)) w.heap.size (0, 0, 0)) := Z2.out.below ((Below.refl _ _).alloc (Nat.le_refl _) _) Z2.out.lt
          have BW : Hid (Below w.heap.size w (w2.alloc (.cells #[.int .i64 0, .int .i64 0, .int .i64 0] 34))) := B2.out.alloc (Nat.le_of_lt L2.out) _
          have NW : Hid (Trio (w2.alloc (.cells #[.int .i64 0, .int .i64 0, .int .i64 0] 34)) w2.heap.size (0, 0, 0)) := Trio.new w2 (0, 0, 0)
          have x0 := TW.out.c0
          have x1 := TW.out.c1
          have x2 := TW.out.c2
          have x3 := TW.out.free 0
          have x4 := TW.out.free 1
          have x5 := TW.out.free 2
          have z0 := ZW.out.free 0
          have z1 := ZW.out.free 1
          have z2 := ZW.out.free 2
          have z3 := ZW.out.c0
          have z4 := ZW.out.c1
          have z5 := ZW.out.c2
          have y0 := NW.out.c0
          have y1 := NW.out.c1
          have y2 := NW.out.c2
          dsimp only at x0 x1 x2 z3 z4 z5 y0 y1 y2
          go_wp2_with fail
          obtain ⟨t9, b9, -⟩ := ZW.out.store BW.out (Nat.le_refl _) 4 am E2
          have T9 := Lib.hid t9
          have B9 := Lib.hid b9
          clear t9 b9
          generalize (((w2.alloc (.cells #[.int .i64 0, .int .i64 0, .int .i64 0] 34)).setCell ⟨w.heap.size, 0, none⟩ (.int .i64 4)).setCell ⟨w.heap.size, 1, none⟩ (.int .i64 am)).setCell ⟨w.heap.size, 2, none⟩ (.int .i64 E2) = W3 at T9 B9 ⊢
          have v0 := T9.out.c0
          have v1 := T9.out.c1
          have v2 := T9.out.c2
          dsimp only at v0 v1 v2
          refine bodyPost_ret (by simp [results, Try.results19, go_sem, v0, v1, v2]; try rfl) rfl ?_
          exact ⟨by rw [HR.out, ← HQ.out, FIN.out, HE.out], B9.out⟩
        · have hq : qualI s (n + m) = ((more (rest s (n + m))).1, ((n + m + (more (rest s (n + m))).2 : Nat) : Int), ((n + m : Nat) : Int)) := by unfold qualI; rw [if_neg hmo]
          obtain ⟨hp1, hp2, -⟩ := more_pos _ hmo
          rw [rest_len] at hp2
          have HMR : Hid ((rest s n).drop m = rest s (n + m)) := rest_drop s n m
          rw [hq, ← HAM.out] at c0
          generalize hmm : more (rest s (n + m)) = mm at *
          obtain ⟨kn, ln⟩ := mm
          have HMM := Lib.hid hmm
          dsimp only at c0 hmo hp1 hp2
          have b3 : (kn == 0) = false := by rw [beq_eq_false_iff_ne]; exact hmo
          have HMO := Lib.hid hmo
          have hen : ∃ en : Int, en = ((n + m + ln : Nat) : Int) := ⟨_, rfl⟩
          obtain ⟨en, hen⟩ := hen
          rw [← hen] at c0
          have HEN := Lib.hid hen
          have C0 := Lib.hid c0
          clear hmo hq c0 hen hmm
          go_wp2_with fail
          refine (C0.out _).mono ?_
          rintro e w2 ⟨rfl, hb2⟩
          have T2 : Hid (Trio w2 w1.heap.size (4, am, E2)) := HT'.out.below hb2 HT'.out.lt
          have Z2 : Hid (Trio w2 w.heap.size (0, 0, 0)) := HZ.out.below hb2 HZ.out.lt
          have B2 : Hid (Below w.heap.size w w2) := HBW.out.trans (hb2.mono HBW.out.size)
          have L2 : Hid (w.heap.size < w2.heap.size) := Z2.out.lt
          clear hb2 x0 x1 x2
          have TW : Hid (Trio (w2.alloc (.cells #[.int .i64 kn, .int .i64 en, .int .i64 am] 34)) w1.heap.size (4, am, E2)) := T2.out.below ((Below.refl _ _).alloc (Nat.le_refl _) _) T2.out.lt
          have ZW : Hid (Trio (w2.alloc (.cells #[.int .i64 kn, .int .i64 en, .int .i64 am] 34)) w.heap.size (0, 0, 0)) := Z2.out.below ((Below.refl _ _).alloc (Nat.le_refl _) _) Z2.out.lt
          have BW : Hid (Below w.heap.size w (w2.alloc (.cells #[.int .i64 kn, .int .i64 en, .int .i64 am] 34))) := B2.out.alloc (Nat.le_of_lt L2.out) _
          have NW : Hid (Trio (w2.alloc (.cells #[.int .i64 kn, .int .i64 en, .int .i64 am] 34)) w2.heap.size (kn, en, am)) := Trio.new w2 (kn, en, am)
          have x0 := TW.out.c0
          have x1 := TW.out.c1
          have x2 := TW.out.c2
          have x3 := TW.out.free 0
          have x4 := TW.out.free 1
          have x5 := TW.out.free 2
          have z0 := ZW.out.free 0
          have z1 := ZW.out.free 1
          have z2 := ZW.out.free 2
          have z3 := ZW.out.c0
          have z4 := ZW.out.c1
          have z5 := ZW.out.c2
          have y0 := NW.out.c0
          have y1 := NW.out.c1
          have y2 := NW.out.c2
          dsimp only at x0 x1 x2 z3 z4 z5 y0 y1 y2
          go_wp2_with fail
          obtain ⟨t9, b9, o9, -⟩ := TW.out.store BW.out HB1.out.size kn en am
          have Z9 : Hid (Trio ((((w2.alloc (.cells #[.int .i64 kn, .int .i64 en, .int .i64 am] 34)).setCell ⟨w1.heap.size, 0, none⟩ (.int .i64 kn)).setCell ⟨w1.heap.size, 1, none⟩ (.int .i64 en)).setCell ⟨w1.heap.size, 2, none⟩ (.int .i64 am)) w.heap.size (0, 0, 0)) := (o9 _ (Nat.ne_of_lt T1.out.lt)).trans ZW.out
          have T9 := Lib.hid t9
          have B9 := Lib.hid b9
          clear t9 b9 o9
          generalize (((w2.alloc (.cells #[.int .i64 kn, .int .i64 en, .int .i64 am] 34)).setCell ⟨w1.heap.size, 0, none⟩ (.int .i64 kn)).setCell ⟨w1.heap.size, 1, none⟩ (.int .i64 en)).setCell ⟨w1.heap.size, 2, none⟩ (.int .i64 am) = W3 at T9 B9 Z9 ⊢
          refine ⟨?_, ?_⟩
          · have e9 : lexI n (kn, m + ln, m) = (kn, en, am) := by
              unfold lexI
              rw [if_neg HMO.out, HEN.out, HAM.out]
              dsimp only
              rw [if_neg (by omega), ← Nat.add_assoc]
            refine ⟨kn, m + ln, m, f - 1, by rw [e9]; exact T9.out, Z9.out, B9.out, ?_, by omega, fun _ => by omega⟩
            cases f with
            | zero => exfalso; omega
            | succ f =>
              rw [← HQ.out, grow_next f (rest s n) 4 m p (by decide) (by rw [HMR.out, HMM.out]; exact HMO.out), HMR.out, HMM.out]
              rfl
          · rw [T9.out.endOf, HT'.out.endOf]
            have h1 := HEN.out
            have h2 := HAM.out
            dsimp only
            omega
    · have hfin := grow_final f (rest s n) k m p (.inl hk)
      have b1 : (k == 2) = false := by rw [beq_eq_false_iff_ne]; omega
      have b2 : (k == 4) = false := by rw [beq_eq_false_iff_ne]; omega
      have hE : ∃ E1 E2 : Int, lexI n (k, m, p) = (k, E1, E2) := by
        unfold lexI
        by_cases q : k = 0
        · exact ⟨0, 0, by rw [if_pos q, q]⟩
        · exact ⟨_, _, by rw [if_neg q]⟩
      obtain ⟨E1, E2, hE⟩ := hE
      have ht := HT.out
      rw [hE] at ht
      have HT' := Lib.hid ht
      have x0 := ht.c0
      have x1 := ht.c1
      have x2 := ht.c2
      clear ht HT
      have z0 := HZ.out.free 0
      have z1 := HZ.out.free 1
      have z2 := HZ.out.free 2
      have z3 := HZ.out.c0
      have z4 := HZ.out.c1
      have z5 := HZ.out.c2
      dsimp only at x0 x1 x2 z3 z4 z5
      have FIN := Lib.hid hfin
      have HE := Lib.hid hE
      clear hfin hE hk
      go_wp2_with fail
      obtain ⟨t9, b9, -⟩ := HZ.out.store HBW.out (Nat.le_refl _) k E1 E2
      have T9 := Lib.hid t9
      have B9 := Lib.hid b9
      clear t9 b9
      generalize ((wr.setCell ⟨w.heap.size, 0, none⟩ (.int .i64 k)).setCell ⟨w.heap.size, 1, none⟩ (.int .i64 E1)).setCell ⟨w.heap.size, 2, none⟩ (.int .i64 E2) = W3 at T9 B9 ⊢
      have y0 := T9.out.c0
      have y1 := T9.out.c1
      have y2 := T9.out.c2
      dsimp only at y0 y1 y2
      refine bodyPost_ret (by simp [results, Try.results19, go_sem, y0, y1, y2]; try rfl) rfl ?_
      exact ⟨by rw [HR.out, ← HQ.out, FIN.out, HE.out], B9.out⟩
end Go.Proofs.Ytkabgeimcpkpgaa.Wrd
