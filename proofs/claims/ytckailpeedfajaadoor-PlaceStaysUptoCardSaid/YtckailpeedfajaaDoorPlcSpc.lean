/-
  The contract of place.Spread. Condition: the string has at most 2^40 bytes.
-/
import Derived.Test.YtckailpeedfajaaDoorPlcSpr
import Derived.Deep.RegionHeld3
namespace Go.Proofs.YtckailpeedfajaaDoor.Plc
open Go.RowKit Gly
set_option linter.unusedSimpArgs false
attribute [local go_sem ↓] Go.wp_at_zero Go.wp_at_succ

/-- A builder stays one while blocks of its kinds stand. -/
theorem builder_kept {T e : TypeId} {B b : Nat} {bs : List Value} {w w' : World} (h : Lib.IsBuilderF T e B b bs w)
    (hk : ∀ (k : Nat) (c : Array Value) (t : TypeId) (fz : Nat × Nat), w.heap[k]? = some (Obj.cells c t fz) → (t = T ∨ t = e) → w'.heap[k]? = some (Obj.cells c t fz)) : Lib.IsBuilderF T e B b bs w' := by
  have key : ∀ p, Lib.BuilderAtF T e B b p bs w → Lib.BuilderAtF T e B b p bs w' := by
    rintro p ⟨hB, v, hb, hown, hne⟩
    refine ⟨hB, v, hk _ _ _ _ hb (.inl rfl), ⟨hown.1, ?_⟩, hne⟩
    rcases hown.2 with hn | ⟨g, cap, cur, fz, rfl, h1, h2, h3⟩
    · exact .inl hn
    · exact .inr ⟨g, cap, cur, fz, rfl, h1, hk _ _ _ _ h2 (.inr rfl), h3⟩
  exact h.elim (fun x => .inl (key _ x)) (fun x => .inr (key _ x))
theorem builder_below {T e : TypeId} {B b : Nat} {bs : List Value} {w w' : World} (h : Lib.IsBuilderF T e B b bs w) (hb : Below w.heap.size w w') : Lib.IsBuilderF T e B b bs w' :=
  builder_kept h fun k _ _ _ hk _ => (hb.block k (lt_of_block hk)).trans hk
theorem Spot.others {b : Nat} {w w' : World} {g : Nat} {st : Int × Int} (h : Spot w g st) (ho : Lib.OthersKept 5 (some b) w w') (hg : g ≠ b) : Spot w' g st :=
  ho g _ h (fun e => hg (Option.some.inj e)) (fun _ _ e => by cases e)
theorem builder_spot {B b g : Nat} {bs : List Value} {w : World} {st st' : Int × Int} (h : Lib.IsBuilderF 46 5 B b bs w) (hs : Spot w g st) :
    Lib.IsBuilderF 46 5 B b bs ((w.setCell ⟨g, 0, none⟩ (.int .i64 st'.1)).setCell ⟨g, 1, none⟩ (.int .i64 st'.2)) :=
  builder_kept h fun k c t fz hk ht => by
    have hne : k ≠ g := by
      rintro rfl
      unfold Spot at hs
      rw [hk] at hs
      injection hs with hs
      injection hs with _ he _
      rcases ht with rfl | rfl <;> exact absurd he (by decide)
    rw [two_other hne]
    exact hk

theorem wstr_any (B b : Nat) (bs : List UInt8) (s : ByteArray) (w : World) (h : Lib.IsBuilderF 46 5 B b (Lib.byteCells bs) w) (hlen : bs.length + s.size ≤ 140737488355328) (hBw : B ≤ w.heap.size) :
    Calls Tryd.prog 27 #[.pointer (some ⟨b, 0, none⟩), .string s] w fun e w' => e = .returned (.tuple #[.int .i64 s.size, .nilIface]) ∧ Lib.IsBuilderF 46 5 B b (Lib.byteCells (bs ++ s.data.toList)) w' ∧ Below B w w' ∧ Lib.OthersKept 5 (some b) w w' := by
  have L : Lays.n166 Tryd.prog Tryd.lays105_ren := { Tryd.lays105 with }
  refine (Any.Builder_WriteString_k L Tryd.Builder_Extra_105 B b (Lib.byteCells bs) s w h (by rw [Lib.byteCells_length]; exact hlen) hBw).mono ?_
  rintro e w' ⟨rfl, h1, h2, h3⟩
  refine ⟨rfl, ?_, h2, h3⟩
  rw [Lib.byteCells_append, ← Lib.strCells_eq]
  exact .inr h1
theorem bstr_any (B b : Nat) (l : List UInt8) (w : World) (h : Lib.IsBuilderF 46 5 B b (Lib.byteCells l) w) (hBw : B ≤ w.heap.size) :
    Calls Tryd.prog 29 #[.pointer (some ⟨b, 0, none⟩)] w fun e w' => e = .returned (.string ⟨l.toArray⟩) ∧ Below B w w' := by
  refine (Any.Builder_String_any_k Tryd.lays169 Tryd.Builder_Extra_169 B b l w h hBw).mono ?_
  rintro e w' ⟨rfl, _, h2, _⟩
  exact ⟨rfl, h2⟩
theorem repeat_any (n : Nat) (hn : n ≤ 8) (w : World) :
    Calls Tryd.prog 28 #[.string ⟨#[32]⟩, .int .i64 (n : Int)] w fun e w' => e = .returned (.string ⟨(List.replicate n 32).toArray⟩) ∧ Below w.heap.size w w' := by
  have h := Any.strings_Repeat Tryd.lays105 Tryd.Builder_Extra_105 ⟨#[32]⟩ n w (by omega) (by have : (⟨#[32]⟩ : ByteArray).size = 1 := rfl; rw [this]; omega)
  have e : ∀ k, Lib.repeatL (⟨#[32]⟩ : ByteArray).data.toList k = List.replicate k 32 := by
    intro k
    induction k with
    | zero => rfl
    | succ k ih =>
      rw [Lib.repeatL, ih]
      rfl
  rw [e] at h
  exact h

theorem below_drew {w w' : World} (h : Below w.drew.heap.size w.drew w') : Below w.heap.size w w' := ⟨h.os, h.tape, h.output, h.size, h.block⟩
/-- The worlds behind the drawn statement 'next := here.past(..)', either way. -/
theorem pack1 {w W2 w2 : World} {H B : Nat} {s : ByteArray} {p : Nat} {st : Int × Int} {bs : List Value} (st' : Int × Int) (sp : Spot W2 H st) (it : W2.heap[H + 1]? = some (.stringIter s p)) (bd : Lib.IsBuilderF 46 5 B B bs W2) (bl : Below B w W2) (hB : B < H)
    (h3 : Below W2.heap.size W2 w2) :
    Spot (w2.alloc (.cells #[.int .i64 st'.1, .int .i64 st'.2] 36)) w2.heap.size st' ∧ Spot (w2.alloc (.cells #[.int .i64 st'.1, .int .i64 st'.2] 36)) H st ∧ (w2.alloc (.cells #[.int .i64 st'.1, .int .i64 st'.2] 36)).heap[H + 1]? = some (.stringIter s p) ∧
      Lib.IsBuilderF 46 5 B B bs (w2.alloc (.cells #[.int .i64 st'.1, .int .i64 st'.2] 36)) ∧ Below B w (w2.alloc (.cells #[.int .i64 st'.1, .int .i64 st'.2] 36)) ∧ H < w2.heap.size := by
  have hH := sp.lt
  have hI := lt_of_block it
  have hsz := h3.size
  refine ⟨heap_alloc_new w2 _, ?_, ?_, (builder_below bd h3).alloc _, (bl.trans (h3.mono (by omega))).alloc (by omega) _, by omega⟩
  · exact (Below.heap_alloc _ _ _ (by omega)).trans ((h3.block _ hH).trans sp)
  · exact (Below.heap_alloc _ _ _ (by omega)).trans ((h3.block _ hI).trans it)
theorem pack2 {w W2 w2 : World} {H B : Nat} {s : ByteArray} {p : Nat} {st : Int × Int} {bs : List Value} (st' : Int × Int) (sp : Spot W2 H st) (it : W2.heap[H + 1]? = some (.stringIter s p)) (bd : Lib.IsBuilderF 46 5 B B bs W2) (bl : Below B w W2) (hB : B < H)
    (h3 : Below W2.heap.size W2 w2) (nx : Spot w2 W2.heap.size (0, 0)) :
    Spot ((w2.setCell ⟨W2.heap.size, 0, none⟩ (.int .i64 st'.1)).setCell ⟨W2.heap.size, 1, none⟩ (.int .i64 st'.2)) W2.heap.size st' ∧ Spot ((w2.setCell ⟨W2.heap.size, 0, none⟩ (.int .i64 st'.1)).setCell ⟨W2.heap.size, 1, none⟩ (.int .i64 st'.2)) H st ∧
      ((w2.setCell ⟨W2.heap.size, 0, none⟩ (.int .i64 st'.1)).setCell ⟨W2.heap.size, 1, none⟩ (.int .i64 st'.2)).heap[H + 1]? = some (.stringIter s p) ∧
      Lib.IsBuilderF 46 5 B B bs ((w2.setCell ⟨W2.heap.size, 0, none⟩ (.int .i64 st'.1)).setCell ⟨W2.heap.size, 1, none⟩ (.int .i64 st'.2)) ∧ Below B w ((w2.setCell ⟨W2.heap.size, 0, none⟩ (.int .i64 st'.1)).setCell ⟨W2.heap.size, 1, none⟩ (.int .i64 st'.2)) ∧ H < W2.heap.size := by
  have hH := sp.lt
  have hI := lt_of_block it
  have hsz := h3.size
  have hbs := bl.size
  refine ⟨nx.set, ?_, ?_, builder_spot (builder_below bd h3) nx, (((bl.trans (h3.mono (by omega))).setCell (by dsimp only; omega) _).setCell (by dsimp only; omega) _), hH⟩
  · exact (two_other (by omega)).trans ((h3.block _ hH).trans sp)
  · exact (two_other (by omega)).trans ((h3.block _ hI).trans it)
/-- The worlds behind the round's last store, 'here = next'. -/
theorem pack3 {w W : World} {H B : Nat} {s : ByteArray} {p : Nat} {st : Int × Int} {bs : List Value} (st' : Int × Int) (sp : Spot W H st) (it : W.heap[H + 1]? = some (.stringIter s p)) (bd : Lib.IsBuilderF 46 5 B B bs W) (bl : Below B w W) (hB : B < H) :
    Spot ((W.setCell ⟨H, 0, none⟩ (.int .i64 st'.1)).setCell ⟨H, 1, none⟩ (.int .i64 st'.2)) H st' ∧ ((W.setCell ⟨H, 0, none⟩ (.int .i64 st'.1)).setCell ⟨H, 1, none⟩ (.int .i64 st'.2)).heap[H + 1]? = some (.stringIter s p) ∧
      Lib.IsBuilderF 46 5 B B bs ((W.setCell ⟨H, 0, none⟩ (.int .i64 st'.1)).setCell ⟨H, 1, none⟩ (.int .i64 st'.2)) ∧ Below B w ((W.setCell ⟨H, 0, none⟩ (.int .i64 st'.1)).setCell ⟨H, 1, none⟩ (.int .i64 st'.2)) :=
  ⟨sp.set, (two_other (by omega)).trans it, builder_spot bd sp, ((bl.setCell (by dsimp only; omega) _).setCell (by dsimp only; omega) _)⟩

set_option maxHeartbeats 2000000 in
theorem spread_any (s : ByteArray) (hs : s.size ≤ 1099511627776) (w : World) :
    Calls Tryd.prog 18 #[.string s] w fun e w' => e = .returned (.string ⟨(sprL s).toArray⟩) ∧ Below w.heap.size w w' := by
  go_enter Tryd.func18, Tryd.ntmps18
  go_wp2_with fail
  refine (start_any 1 _).mono ?_
  rintro e w1 ⟨rfl, hb1⟩
  have HB1 := Lib.hid hb1
  clear hb1
  go_wp2_with fail
  go_loopw [5] (fun bv wr => ∃ (p f b : Nat) (st : Int × Int) (acc : List UInt8), bv = .int .i64 (b : Int) ∧ Lib.IsBuilderF 46 5 w.heap.size w.heap.size (Lib.byteCells acc) wr ∧ Spot wr w1.heap.size st ∧ wr.heap[w1.heap.size + 1]? = some (.stringIter s p) ∧ Below w.heap.size w wr ∧
      acc ++ sl s b p ++ spr s f p st = sprL s ∧ b ≤ p ∧ p ≤ s.size ∧ s.size ≤ p + f ∧ acc.length ≤ 8 * b ∧ 1 ≤ st.1 ∧ st.1 ≤ 1 + (p : Int) ∧ 1 ≤ st.2 ∧ st.2 ≤ 1 + 8 * (p : Int)) (fun _ wr => s.size - wr.iterPos (w1.heap.size + 1))
  case atStart =>
    have b0 : Lib.IsBuilderF 46 5 w.heap.size w.heap.size (Lib.byteCells []) w1 := builder_below (Lib.IsBuilderF.of (Lib.fresh_isBuilder 46 5 w)) HB1.out
    have hBk : w.heap.size < w1.heap.size := by
      have := HB1.out.size
      rw [World.size_alloc] at this
      omega
    refine ⟨0, s.size, 0, (1, 1), [], rfl, (b0.alloc _).alloc _, start_spot w1 s (1, 1), start_iter w1 s _, ?_, by rw [sl_same]; rfl, by omega, by omega, by omega, by simp, by dsimp only; omega, by dsimp only; omega, by dsimp only; omega, by dsimp only; omega⟩
    refine (Below.alloc (Below.refl _ w) (Nat.le_refl _) _).trans ((HB1.out.mono (by rw [World.size_alloc]; omega)).trans ?_)
    exact ((((Below.refl _ _).alloc (Nat.le_refl _) _).alloc (by simp) _).mono (by omega))
  case round =>
    obtain ⟨p, f, b, st, acc, rfl, hbd, hsp, hit, hbw, hq, hbp, hp0, hf, hacc, k1, k2, k3, k4⟩ := hrel
    have HQ := Lib.hid hq
    have HBD := Lib.hid hbd
    have HIT := Lib.hid hit
    have HSP := Lib.hid hsp
    have HBW := Lib.hid hbw
    have hBk : w.heap.size < w1.heap.size := by
      have := HB1.out.size
      rw [World.size_alloc] at this
      omega
    clear hq hbd hit hsp hbw
    by_cases hp : p < s.size
    · have hw := width_ge s p
      have hx := width_fits s p hp
      obtain ⟨W2, hnx, it2, hb2, hz2, ho2⟩ := next_in HIT.out HBW.out (by omega) hp
      have IT2 := Lib.hid it2
      have HB2 := Lib.hid hb2
      have sp2 : Hid (Spot W2 w1.heap.size st) := (ho2 _ (by omega)).trans HSP.out
      have bd2 : Hid (Lib.IsBuilderF 46 5 w.heap.size w.heap.size (Lib.byteCells acc) W2) := builder_kept HBD.out fun k c t fz hk _ => (ho2 k (fun e => by rw [e, HIT.out] at hk; cases hk)).trans hk
      clear it2 hb2 ho2 hz2
      have x0 := sp2.out.c0
      have x1 := sp2.out.c1
      have hlt := sp2.out.lt
      have i0 : (0 : Int) ≤ (p : Int) := by omega
      have i1 : (p : Int) ≤ (s.size : Int) := by omega
      have n0 := World.new_ne W2 ⟨w1.heap.size, 0, none⟩ x0
      have n1 := World.new_ne W2 ⟨w1.heap.size, 1, none⟩ x1
      have sp2a : Hid (Spot (W2.alloc (.cells #[.int .i64 0, .int .i64 0] 36)) w1.heap.size st) := (Below.heap_alloc _ _ _ hlt).trans sp2.out
      have nx2a : Hid (Spot (W2.alloc (.cells #[.int .i64 0, .int .i64 0] 36)) W2.heap.size (0, 0)) := heap_alloc_new W2 _
      by_cases c9 : bt s p = 9
      · have hr : (Utf8.decode s p).1 = 9 := (rune_tab s p).2 c9
        have W1 : Hid ((Utf8.decode s p).2 = 1) := width_ascii s p (by omega)
        have E : Hid (adv s p st = (st.1, tabI st.2)) := by
          have h0 : nlAt s p = 0 := by
            unfold nlAt
            rw [if_neg (by omega), if_neg (by omega), if_neg (by omega)]
          unfold Hid adv
          rw [if_neg (by omega), if_neg (by omega), if_pos c9]
        obtain ⟨g1, g2, g3⟩ := tab_step st.2 k3
        obtain ⟨n, hn⟩ : ∃ n, (tabI st.2 - st.2).toNat = n := ⟨_, rfl⟩
        obtain ⟨tc, htc⟩ : ∃ tc, tabI st.2 = tc := ⟨_, rfl⟩
        have O : Hid (outAt s p st.2 = List.replicate n 32) := by unfold Hid outAt; rw [if_pos c9, hn]
        rw [hn] at g1 g2 g3
        rw [htc] at g3
        have E2 : Hid (adv s p st = (st.1, tc)) := by unfold Hid; rw [E.out, htc]
        clear E hn htc c9
        have g4 : tc - st.2 = (n : Int) := by omega
        go_wp2_with fail
        go_region_held3 (fun w' => w'.cell? ⟨w1.heap.size, 0, none⟩ = some (.int .i64 st.1) ∧ w'.cell? ⟨w1.heap.size, 1, none⟩ = some (.int .i64 st.2)) (go_keep) (first | (go_at_call 23; refine (past_at s p st (by omega) hp (by omega) (by omega) (by omega) (by omega) _).mono ?_; rintro e w2 ⟨rfl, hb3⟩; have sp3 : Hid (Spot w2 w1.heap.size st) := sp2.out.drew.below hb3 sp2.out.lt; have HB3 : Hid (Below W2.heap.size W2 w2) := below_drew hb3; clear hb3; have y0 := sp3.out.c0; have y1 := sp3.out.c1; have n2 := World.new_ne w2 ⟨w1.heap.size, 0, none⟩ y0; have n3 := World.new_ne w2 ⟨w1.heap.size, 1, none⟩ y1) | (go_at_call 23; refine (past_at s p st (by omega) hp (by omega) (by omega) (by omega) (by omega) _).mono ?_; rintro e w2 ⟨rfl, hb3⟩; have sp3 : Hid (Spot w2 w1.heap.size st) := sp2a.out.drew.below hb3 sp2a.out.lt; have nx3 : Hid (Spot w2 W2.heap.size (0, 0)) := nx2a.out.drew.below hb3 nx2a.out.lt; have HB3 : Hid (Below W2.heap.size W2 w2) := ((Below.refl _ _).alloc (Nat.le_refl _) _).trans ((below_drew hb3).mono (by rw [World.size_alloc]; omega)); clear hb3; have y0 := sp3.out.c0; have y1 := sp3.out.c1; have y4 := nx3.out.c0; have y5 := nx3.out.c1; have y6 := nx3.out.free 0; have y7 := nx3.out.free 1))
        obtain ⟨sN, sH, it3, bd3, bl3, hN⟩ := pack1 (adv s p st) sp2.out IT2.out bd2.out HB2.out hBk HB3.out
        generalize w2.alloc (.cells #[.int .i64 (adv s p st).1, .int .i64 (adv s p st).2] 36) = W3 at sN sH it3 bd3 bl3 hN ⊢
        generalize w2.heap.size = N at sN sH it3 bd3 bl3 hN ⊢
        rotate_left
        obtain ⟨sN, sH, it3, bd3, bl3, hN⟩ := pack2 (adv s p st) sp2.out IT2.out bd2.out HB2.out hBk HB3.out nx3.out
        generalize (w2.setCell ⟨W2.heap.size, 0, none⟩ (.int .i64 (adv s p st).1)).setCell ⟨W2.heap.size, 1, none⟩ (.int .i64 (adv s p st).2) = W3 at sN sH it3 bd3 bl3 hN ⊢
        generalize W2.heap.size = N at sN sH it3 bd3 bl3 hN ⊢
        clear nx3 y4 y5 y6 y7
        all_goals clear sp2 IT2 bd2 HB2 HB3 sp2a nx2a sp3 y0 y1 x0 x1 n0 n1 hlt
        all_goals rw [E2.out] at sN
        all_goals (have SN := Lib.hid sN; have SH := Lib.hid sH; have IT3 := Lib.hid it3; have BD3 := Lib.hid bd3; have BL3 := Lib.hid bl3; clear sN sH it3 bd3 bl3)
        all_goals go_wp2_with fail
        all_goals (refine (wstr_any w.heap.size w.heap.size acc (s.extract b p) _ BD3.out (by rw [sl_size s b p hp0]; omega) (by have := BL3.out.size; omega)).mono ?_)
        all_goals rintro e W4 ⟨rfl, bd4, bb4, ok4⟩
        all_goals (have SN4 := Lib.hid (SN.out.others ok4 (by omega)); have SH4 := Lib.hid (SH.out.others ok4 (by omega)); have IT4 := Lib.hid (ok4.iter IT3.out (by omega)); have BD4 := Lib.hid bd4; have BL4 := Lib.hid (BL3.out.trans bb4); clear bd4 bb4 ok4)
        all_goals (have d1 : W4.cell? ⟨N, 1, none⟩ = some (.int .i64 tc) := SN4.out.c1; have d2 : W4.cell? ⟨w1.heap.size, 1, none⟩ = some (.int .i64 st.2) := SH4.out.c1)
        all_goals go_wp2_with fail
        all_goals refine (repeat_any n g2 _).mono ?_
        all_goals rintro e W5 ⟨rfl, bb5⟩
        all_goals (have SN5 := Lib.hid (SN4.out.below bb5 SN4.out.lt); have SH5 := Lib.hid (SH4.out.below bb5 SH4.out.lt); have IT5 := Lib.hid ((bb5.block _ (lt_of_block IT4.out)).trans IT4.out); have BD5 := Lib.hid (builder_below BD4.out bb5); have BL5 := Lib.hid (BL4.out.trans (bb5.mono BL4.out.size)); clear bb5 d1 d2)
        all_goals go_wp2_with fail
        all_goals (refine (wstr_any w.heap.size w.heap.size _ _ _ BD5.out (by have := sl_len s b p hp0; unfold sl at this; rw [List.length_append, this, Lib.size_eq]; simp; omega) (by have := BL5.out.size; omega)).mono ?_)
        all_goals rintro e W6 ⟨rfl, bd6, bb6, ok6⟩
        all_goals (have SN6 := Lib.hid (SN5.out.others ok6 (by omega)); have SH6 := Lib.hid (SH5.out.others ok6 (by omega)); have IT6 := Lib.hid (ok6.iter IT5.out (by omega)); have BD6 := Lib.hid bd6; have BL6 := Lib.hid (BL5.out.trans bb6); clear bd6 bb6 ok6)
        all_goals (have d0 : W6.cell? ⟨N, 0, none⟩ = some (.int .i64 st.1) := SN6.out.c0; have d1 : W6.cell? ⟨N, 1, none⟩ = some (.int .i64 tc) := SN6.out.c1; have d2 := SH6.out.c0; have d3 := SH6.out.c1; have d4 := SH6.out.free 0; have d5 := SH6.out.free 1)
        all_goals go_wp2_with fail
        all_goals (obtain ⟨q1, q2, q3, q4⟩ := pack3 (st.1, tc) SH6.out IT6.out BD6.out BL6.out hBk; have Q2 := Lib.hid q2; go_roundw)
        all_goals first
          | (refine ⟨p + (Utf8.decode s p).2, f - 1, p + 1, (st.1, tc), acc ++ (s.extract b p).data.toList ++ (Array.replicate n 32).toList, by go_num, q3, q1, Q2.out, q4, ?_, by omega, hx, by omega, ?_, k1, by omega, by dsimp only; omega, by dsimp only; omega⟩
             · rw [← HQ.out, spr_go s f p st hp hf, O.out, E2.out, W1.out, sl_same, List.append_nil, Array.toList_replicate]
               unfold sl
               simp only [List.append_assoc]
             · have := sl_len s b p hp0
               unfold sl at this
               rw [List.length_append, List.length_append, this]
               simp
               omega)
          | (rw [iterPos_of Q2.out, iterPos_of HIT.out]; omega)
      · have hr0 : ¬ (Utf8.decode s p).1 = 9 := fun h => c9 ((rune_tab s p).1 h)
        have hr : (((Utf8.decode s p).1 : Nat) : Int) ≠ 9 := by omega
        have hr2 : ((((Utf8.decode s p).1 : Nat) : Int) == 9) = false := by rw [beq_eq_false_iff_ne]; exact hr
        have O : Hid (outAt s p st.2 = sl s p (p + (Utf8.decode s p).2)) := by unfold Hid outAt; rw [if_neg c9]
        clear c9 hr0
        go_wp2_with fail
        go_region_held3 (fun w' => w'.cell? ⟨w1.heap.size, 0, none⟩ = some (.int .i64 st.1) ∧ w'.cell? ⟨w1.heap.size, 1, none⟩ = some (.int .i64 st.2)) (go_keep) (first | (go_at_call 23; refine (past_at s p st (by omega) hp (by omega) (by omega) (by omega) (by omega) _).mono ?_; rintro e w2 ⟨rfl, hb3⟩; have sp3 : Hid (Spot w2 w1.heap.size st) := sp2.out.drew.below hb3 sp2.out.lt; have HB3 : Hid (Below W2.heap.size W2 w2) := below_drew hb3; clear hb3; have y0 := sp3.out.c0; have y1 := sp3.out.c1; have n2 := World.new_ne w2 ⟨w1.heap.size, 0, none⟩ y0; have n3 := World.new_ne w2 ⟨w1.heap.size, 1, none⟩ y1) | (go_at_call 23; refine (past_at s p st (by omega) hp (by omega) (by omega) (by omega) (by omega) _).mono ?_; rintro e w2 ⟨rfl, hb3⟩; have sp3 : Hid (Spot w2 w1.heap.size st) := sp2a.out.drew.below hb3 sp2a.out.lt; have nx3 : Hid (Spot w2 W2.heap.size (0, 0)) := nx2a.out.drew.below hb3 nx2a.out.lt; have HB3 : Hid (Below W2.heap.size W2 w2) := ((Below.refl _ _).alloc (Nat.le_refl _) _).trans ((below_drew hb3).mono (by rw [World.size_alloc]; omega)); clear hb3; have y0 := sp3.out.c0; have y1 := sp3.out.c1; have y4 := nx3.out.c0; have y5 := nx3.out.c1; have y6 := nx3.out.free 0; have y7 := nx3.out.free 1))
        obtain ⟨sN, sH, it3, bd3, bl3, hN⟩ := pack1 (adv s p st) sp2.out IT2.out bd2.out HB2.out hBk HB3.out
        generalize w2.alloc (.cells #[.int .i64 (adv s p st).1, .int .i64 (adv s p st).2] 36) = W3 at sN sH it3 bd3 bl3 hN ⊢
        generalize w2.heap.size = N at sN sH it3 bd3 bl3 hN ⊢
        rotate_left
        obtain ⟨sN, sH, it3, bd3, bl3, hN⟩ := pack2 (adv s p st) sp2.out IT2.out bd2.out HB2.out hBk HB3.out nx3.out
        generalize (w2.setCell ⟨W2.heap.size, 0, none⟩ (.int .i64 (adv s p st).1)).setCell ⟨W2.heap.size, 1, none⟩ (.int .i64 (adv s p st).2) = W3 at sN sH it3 bd3 bl3 hN ⊢
        generalize W2.heap.size = N at sN sH it3 bd3 bl3 hN ⊢
        clear nx3 y4 y5 y6 y7
        all_goals clear sp2 IT2 bd2 HB2 HB3 sp2a nx2a sp3 y0 y1 x0 x1 n0 n1 hlt
        all_goals (have SN := Lib.hid sN; have SH := Lib.hid sH; have IT3 := Lib.hid it3; have BD3 := Lib.hid bd3; have BL3 := Lib.hid bl3; clear sN sH it3 bd3 bl3)
        all_goals (have d0 := SN.out.c0; have d1 := SN.out.c1; have d2 := SH.out.c0; have d3 := SH.out.c1; have d4 := SH.out.free 0; have d5 := SH.out.free 1)
        all_goals go_wp2_with fail
        all_goals (obtain ⟨q1, q2, q3, q4⟩ := pack3 (adv s p st) SH.out IT3.out BD3.out BL3.out hBk; have Q2 := Lib.hid q2; go_roundw)
        all_goals first
          | (have hbd := adv_bd s p st _ _ ⟨k1, k2⟩ ⟨k3, k4⟩
             refine ⟨p + (Utf8.decode s p).2, f - 1, b, adv s p st, acc, rfl, q3, q1, Q2.out, q4, ?_, by omega, hx, by omega, hacc, hbd.1.1, by have := hbd.1.2; omega, hbd.2.1, by have := hbd.2.2; omega⟩
             rw [← HQ.out, spr_go s f p st hp hf, O.out, ← sl_cat s b p (p + (Utf8.decode s p).2) hbp (by omega)]
             simp only [List.append_assoc])
          | (rw [iterPos_of Q2.out, iterPos_of HIT.out]; omega)
    · obtain rfl : p = s.size := by omega
      have hnx : ∀ ty, (Instr.next (.pointer (some ⟨w1.heap.size + 1, 0, none⟩)) true ty).run Tryd.prog wr = .ok (.tuple #[.bool false]) wr := fun ty => Lib.run_next_end_at (P := Tryd.prog) wr (w1.heap.size + 1) s s.size ty HIT.out hp
      have b0 : (b : Int) ≤ (s.size : Int) := by omega
      go_wp2_with fail
      refine (wstr_any w.heap.size w.heap.size acc (s.extract b s.size) _ HBD.out (by rw [sl_size s b s.size (Nat.le_refl _)]; omega) (by have := HBW.out.size; omega)).mono ?_
      rintro e W4 ⟨rfl, bd4, bb4, ok4⟩
      have BD4 := Lib.hid bd4
      have BL4 := Lib.hid (HBW.out.trans bb4)
      clear bd4 bb4 ok4
      go_wp2_with fail
      refine (bstr_any w.heap.size w.heap.size _ _ BD4.out (by have := BL4.out.size; omega)).mono ?_
      rintro e W5 ⟨rfl, bb5⟩
      have BL5 := Lib.hid (BL4.out.trans bb5)
      clear bb5
      go_wp2_with fail
      go_ret
      refine ⟨?_, BL5.out⟩
      rw [← HQ.out, spr_end _ _ _ _ hp, List.append_nil, sl_take]
      rfl
end Go.Proofs.YtckailpeedfajaaDoor.Plc
