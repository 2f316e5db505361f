/-
  The contract of package quote's Plain. Conditions: the string has at most 2^46 bytes; the program's list of names stands.
-/
import Derived.Test.YtdppfhgihoibnaaDoorQtScn
namespace Go.Proofs.YtdppfhgihoibnaaDoor.Qt
open Go.RowKit Gly
open Wrd (rn wd)
set_option linter.unusedSimpArgs false
set_option linter.unusedVariables false

theorem builder_held {T e : TypeId} {B b : Nat} {bs : List Value} {w w' : World} (h : Lib.IsBuilderF T e B b bs w) (hb : w'.heap[b]? = w.heap[b]?)
    (hk : ∀ (k : Nat) (c : Array Value) (fz : Nat × Nat), w.heap[k]? = some (Obj.cells c e fz) → w'.heap[k]? = some (Obj.cells c e fz)) : Lib.IsBuilderF T e B b bs w' := by
  have key : ∀ p, Lib.BuilderAtF T e B b p bs w → Lib.BuilderAtF T e B b p bs w' := by
    rintro p ⟨hB, v, hbb, hown, hne⟩
    refine ⟨hB, v, hb.trans hbb, ⟨hown.1, ?_⟩, hne⟩
    rcases hown.2 with hn | ⟨g, cap, cur, fz, rfl, h1, h2, h3⟩
    · exact .inl hn
    · exact .inr ⟨g, cap, cur, fz, rfl, h1, hk _ _ _ h2, h3⟩
  exact h.elim (fun x => .inl (key _ x)) (fun x => .inr (key _ x))
theorem wstr_kept (B b : Nat) (bs : List UInt8) (s : ByteArray) (w : World) (h : Bld B b bs w) (hlen : bs.length + s.size ≤ 140737488355328) (hBw : B ≤ w.heap.size) :
    Calls Tryd.prog 28 #[.pointer (some ⟨b, 0, none⟩), .string s] w fun e w' => e = .returned (.tuple #[.int .i64 s.size, .nilIface]) ∧ Bld B b (bs ++ s.data.toList) w' ∧ Below B w w' ∧ Lib.OthersKept 5 (some b) w w' := by
  refine (Any.Builder_WriteString_k Tryd.bld166 Tryd.bldX B b (Lib.byteCells bs) s w h (by rw [Lib.byteCells_length]; exact hlen) hBw).mono ?_
  rintro e w' ⟨rfl, h1, h2, h3⟩
  refine ⟨rfl, ?_, h2, h3⟩
  unfold Bld
  rw [Lib.byteCells_append, ← Lib.strCells_eq]
  exact .inr h1
theorem narrow_len (L : List UInt8) (p : Pc) (h : pieceL L = .ok p) : (narrow p).bytes.length ≤ p.bytes.length := by
  unfold narrow
  by_cases q : p.form = 2
  · rw [if_pos q]
    rcases piece_cases L p h with ⟨h1, h2, rfl⟩ | ⟨h1, h2, h3, rfl⟩ | ⟨h1, h2, h3, h4, h5, rfl⟩ | ⟨h1, h2, h3, rfl⟩
    · simp at q
    · rcases gap_cases L with z | ⟨k, r1, r2, r3, r4, r5⟩
      · exact absurd z h3
      · dsimp only
        rw [List.length_take]
        simp
        omega
    · simp at q
    · simp at q
  · rw [if_neg q]
    exact Nat.le_refl _
theorem sub_take (s : ByteArray) (a k : Nat) : (s.extract a (a + k)).data.toList = (rest s a).take k := by
  rw [Lib.extract_data, Nat.add_sub_cancel_left]
  rfl

/-- What Plain's visitor has laid: the text in a variable, the builder, how far it is. -/
def PlnV (s : ByteArray) (w0 : World) (acc : List Pc) (w : World) : Prop :=
  Below w0.heap.size w0 w ∧ One w w0.heap.size (.string s) 9 ∧ ∃ (d : Nat) (bs : List UInt8), One w (w0.heap.size + 2) (.int .i64 (d : Int)) 3 ∧ Bld w0.heap.size (w0.heap.size + 1) bs w ∧
    d ≤ 1 + (flat acc).length ∧ 1 + (flat acc).length ≤ s.size ∧ bs ++ (rest s d).take (1 + (flat acc).length - d) = (rest s 0).take 1 ++ flat (acc.map narrow) ∧ (flat (acc.map narrow)).length ≤ (flat acc).length
def PlnO (w0 : World) (w : World) (j : Nat) : Prop := j = w0.heap.size ∨ j = w0.heap.size + 1 ∨ j = w0.heap.size + 2 ∨ ∃ c fz, w.heap[j]? = some (.cells c 5 fz)
theorem Bld.lt {B b : Nat} {bs : List UInt8} {w : World} (h : Bld B b bs w) : b < w.heap.size := by
  rcases h with ⟨_, v, hb, _⟩ | ⟨_, v, hb, _⟩ <;> exact lt_of_block hb
theorem Bld.below {B b : Nat} {bs : List UInt8} {w w' : World} (h : Bld B b bs w) (hb : Below w.heap.size w w') : Bld B b bs w' := builder_below h hb
theorem Bld.new (w : World) : Bld w.heap.size w.heap.size [] (w.alloc (.cells #[.pointer none, .slice none 0 0] 46)) := Lib.IsBuilderF.of (Lib.fresh_isBuilder 46 5 w)
theorem Bld.base {B B' b : Nat} {bs : List UInt8} {w : World} (h : Bld B b bs w) (hB : B' ≤ B) : Bld B' b bs w := by
  have key : ∀ p, Lib.BuilderAtF 46 5 B b p (Lib.byteCells bs) w → Lib.BuilderAtF 46 5 B' b p (Lib.byteCells bs) w := by
    rintro p ⟨h1, v, h2, h3, h4⟩
    refine ⟨Nat.le_trans hB h1, v, h2, ⟨h3.1, ?_⟩, h4⟩
    rcases h3.2 with hn | ⟨g, cap, cur, fz, rfl, q1, q2⟩
    · exact .inl hn
    · exact .inr ⟨g, cap, cur, fz, rfl, Nat.le_trans hB q1, q2⟩
  exact h.elim (fun x => .inl (key _ x)) (fun x => .inr (key _ x))
theorem One.others {w w' : World} {g b : Nat} {v : Value} {t : TypeId} (h : One w g v t) (hk : Lib.OthersKept 5 (some b) w w') (hg : g ≠ b) (ht : t ≠ 5) : One w' g v t :=
  hk g _ h (fun e => hg (Option.some.inj e)) (fun c fz e => ht (by injection e))

set_option maxHeartbeats 1000000 in
theorem vis_plain (s : ByteArray) (hs : s.size ≤ 70368744177664) (tot : List Pc) (htot : 1 + (flat tot).length ≤ s.size) (w0 : World) (hN : Nam w0) : Vis s 1 tot 33 #[.pointer (some ⟨w0.heap.size + 1, 0, none⟩), .pointer (some ⟨w0.heap.size, 0, none⟩), .pointer (some ⟨w0.heap.size + 2, 0, none⟩)] w0.heap.size (PlnV s w0) (PlnO w0) where
  enter := enters_of Tryd.func33 (by kernel_rfl) rfl
  nam := fun _ w h => hN.below h.1 (Nat.le_refl _)
  size := fun _ w h => h.1.size
  keep := fun acc w w' h hb => by
    obtain ⟨h1, h2, d, bs, h3, h4, h5⟩ := h
    refine ⟨⟨h1.trans (hb.mono h1.size), h2.below hb h2.lt, d, bs, h3.below hb h3.lt, h4.below hb, h5⟩, ?_⟩
    rintro j hj hn (h | h | h | ⟨c, fz, h⟩)
    · exact hn (.inl h)
    · exact hn (.inr (.inl h))
    · exact hn (.inr (.inr (.inl h)))
    · exact hn (.inr (.inr (.inr ⟨c, fz, (hb.block j hj).symm.trans h⟩)))
  fresh := fun acc w c t fz h ht => by
    obtain ⟨h1, h2, d, bs, h3, h4, h5⟩ := h
    have a2 := h2.lt
    have a3 := h3.lt
    rintro (h | h | h | ⟨c', fz', h⟩)
    · omega
    · omega
    · omega
    · have : (w.alloc (.cells c t fz)).heap[w.heap.size]? = some (.cells c t fz) := heap_alloc_new w _
      rw [this] at h
      injection h with h
      injection h with _ h _
      exact ht h
  set := fun acc w j i x h hB hj hn => by
    obtain ⟨h1, h2, d, bs, h3, h4, h5⟩ := h
    have n1 : w0.heap.size ≠ j := fun e => hn (.inl e.symm)
    have n2 : w0.heap.size + 1 ≠ j := fun e => hn (.inr (.inl e.symm))
    have n3 : w0.heap.size + 2 ≠ j := fun e => hn (.inr (.inr (.inl e.symm)))
    have hk : ∀ k, k ≠ j → (w.setCell ⟨j, i, none⟩ x).heap[k]? = w.heap[k]? := fun k hk => heap_setCell_other w ⟨j, i, none⟩ _ x hk
    refine ⟨⟨h1.setCell (p := ⟨j, i, none⟩) hB x, (hk _ n1).trans h2, d, bs, (hk _ n3).trans h3, ?_, h5⟩, ?_⟩
    · refine builder_held h4 (hk _ n2) fun k c fz hkk => ?_
      rw [hk k (fun e => hn (.inr (.inr (.inr ⟨c, fz, by rw [← e]; exact hkk⟩))))]
      exact hkk
    · rintro k hk2 (h | h | h | ⟨c, fz, h⟩)
      · exact hk2 (.inl h)
      · exact hk2 (.inr (.inl h))
      · exact hk2 (.inr (.inr (.inl h)))
      · by_cases e : k = j
        · subst e
          have hcell : ∃ o, w.heap[k]? = some o := ⟨_, Array.getElem?_eq_getElem hj⟩
          obtain ⟨o, ho⟩ := hcell
          have hm : (w.setCell ⟨k, i, none⟩ x).heap[k]? = (w.heap.modify k fun o => match o with | .cells cs t fz => .cells (cs.setIfInBounds i x) t fz | o => o)[k]? := rfl
          rw [hm, Array.getElem?_modify, if_pos rfl, ho] at h
          cases o with
          | cells cs t fz' =>
            simp at h
            exact hk2 (.inr (.inr (.inr ⟨cs, fz', by rw [ho, h.2.1]⟩)))
          | _ => simp at h
        · exact hk2 (.inr (.inr (.inr ⟨c, fz, by rw [← hk k e]; exact h⟩)))
  step := fun acc p w h ht hp => by
    obtain ⟨h1, h2, d, bs, h3, h4, h5, h6, h7, h8⟩ := h
    obtain ⟨l1, l2, l3⟩ := piece_len _ p hp
    have hnl := narrow_len _ p hp
    obtain ⟨n, hn⟩ : ∃ n, 1 + (flat acc).length = n := ⟨_, rfl⟩
    rw [hn] at l2 l3 h5 h6 h7 hp ⊢
    rw [rest_len] at l2
    have hlt := h2.lt
    have hlt2 := h3.lt
    have hlt3 := Bld.lt h4
    have hb : Below w.heap.size w (w.alloc (.cells #[.int .i64 (p.form : Int), .int .i64 (p.num : Int), .int .i64 (n : Int), .int .i64 ((n + p.bytes.length : Nat) : Int)] 38)) := (Below.refl _ _).alloc (Nat.le_refl _) _
    have hbl : bs.length + (n - d) ≤ s.size := by
      have := congrArg List.length h7
      rw [List.length_append, List.length_append, List.length_take, List.length_take, rest_len, rest_len] at this
      omega
    have ef : flat (acc ++ [p]) = flat acc ++ p.bytes := by rw [flat_app]; unfold flat; simp
    have en : flat ((acc ++ [p]).map narrow) = flat (acc.map narrow) ++ (narrow p).bytes := by rw [List.map_append, flat_app]; unfold flat; simp
    have H1 := Lib.hid h1
    have H2 := Lib.hid h2
    have H3 := Lib.hid h3
    have H4 := Lib.hid h4
    have H7 := Lib.hid h7
    have H8 := Lib.hid h8
    have HB := Lib.hid hb
    have HN := Lib.hid hn
    have EF := Lib.hid ef
    have EN := Lib.hid en
    have L3 := Lib.hid l3
    unfold pcV pcC
    simp only [List.push_toArray, List.append_toArray, List.cons_append, List.nil_append]
    by_cases q : p.form = 2
    · have x0 : ((p.form : Int) == 2) = true := by rw [beq_iff_eq]; omega
      have hq : (narrow p).bytes = [92, 32, 92] := by unfold narrow; rw [if_pos q]
      have HQ := Lib.hid hq
      have r0 := h2.c0
      have r1 := h3.c0
      have i1 : (d : Int) ≤ (n : Int) := by omega
      have i2 : (n : Int) ≤ (s.size : Int) := by omega
      have BP : Hid (Bld w0.heap.size (w0.heap.size + 1) bs (w.alloc (.cells #[.int .i64 (p.form : Int), .int .i64 (p.num : Int), .int .i64 (n : Int), .int .i64 ((n + p.bytes.length : Nat) : Int)] 38))) := h4.below hb
      have OS : Hid (One (w.alloc (.cells #[.int .i64 (p.form : Int), .int .i64 (p.num : Int), .int .i64 (n : Int), .int .i64 ((n + p.bytes.length : Nat) : Int)] 38)) w0.heap.size (.string s) 9) := h2.below hb h2.lt
      have OD : Hid (One (w.alloc (.cells #[.int .i64 (p.form : Int), .int .i64 (p.num : Int), .int .i64 (n : Int), .int .i64 ((n + p.bytes.length : Nat) : Int)] 38)) (w0.heap.size + 2) (.int .i64 (d : Int)) 3) := h3.below hb h3.lt
      have FP : Hid (Four (w.alloc (.cells #[.int .i64 (p.form : Int), .int .i64 (p.num : Int), .int .i64 (n : Int), .int .i64 ((n + p.bytes.length : Nat) : Int)] 38)) w.heap.size (p.form : Int) (p.num : Int) (n : Int) ((n + p.bytes.length : Nat) : Int)) := Four.new w _ _ _ _
      have ST : Hid ((s.extract d n).data.toList = (rest s d).take (n - d)) := by
        have := sub_take s d (n - d)
        rw [show d + (n - d) = n by omega] at this
        exact this
      have SZ : Hid ((s.extract d n).size = n - d) := by
        unfold Hid
        rw [Lib.size_eq, ST.out, List.length_take, rest_len]
        omega
      have ZP : Hid ((w.alloc (.cells #[.int .i64 (p.form : Int), .int .i64 (p.num : Int), .int .i64 (n : Int), .int .i64 ((n + p.bytes.length : Nat) : Int)] 38)).heap.size = w.heap.size + 1) := World.size_alloc _ _
      have HP1 : Hid (Below w0.heap.size w0 (w.alloc (.cells #[.int .i64 (p.form : Int), .int .i64 (p.num : Int), .int .i64 (n : Int), .int .i64 ((n + p.bytes.length : Nat) : Int)] 38))) := h1.trans (hb.mono h1.size)
      have C1 : Hid (Calls Tryd.prog 28 #[.pointer (some ⟨w0.heap.size + 1, 0, none⟩), .string (s.extract d n)] (w.alloc (.cells #[.int .i64 (p.form : Int), .int .i64 (p.num : Int), .int .i64 (n : Int), .int .i64 ((n + p.bytes.length : Nat) : Int)] 38)) _) := wstr_kept _ _ bs (s.extract d n) _ BP.out (by rw [SZ.out]; omega) (by rw [ZP.out]; omega)
      clear h1 h2 h3 h4 h7 h8 hb hn ef en l3 hq q ht hp htot hN
      go_enter Tryd.func33, Tryd.ntmps33
      go_wp2_with fail
      refine C1.out.mono ?_
      rintro e w1 ⟨rfl, b1, lo1, k1⟩
      have B1 := Lib.hid b1
      have LO1 := Lib.hid lo1
      have K1 := Lib.hid k1
      have FP1 : Hid (Four w1 w.heap.size (p.form : Int) (p.num : Int) (n : Int) ((n + p.bytes.length : Nat) : Int)) := k1 _ _ FP.out (fun e => by have := Option.some.inj e; omega) (fun c fz e => by injection e with _ e _; exact absurd e (by decide))
      have OD1 := Lib.hid (OD.out.others k1 (by omega) (by decide))
      have C2 : Hid (Calls Tryd.prog 28 #[.pointer (some ⟨w0.heap.size + 1, 0, none⟩), .string ⟨#[92, 32, 92]⟩] w1 _) := wstr_kept _ _ _ ⟨#[92, 32, 92]⟩ _ b1 (by rw [List.length_append, ← Lib.size_eq, SZ.out]; show _ + 3 ≤ _; omega) (Nat.le_trans (by rw [ZP.out]; omega) lo1.size)
      clear b1 lo1 k1 r0 r1
      go_wp2_with fail
      refine C2.out.mono ?_
      rintro e w2 ⟨rfl, b2, lo2, k2⟩
      have B2 := Lib.hid b2
      have LO2 := Lib.hid lo2
      have K2 := Lib.hid k2
      have FP2 : Hid (Four w2 w.heap.size (p.form : Int) (p.num : Int) (n : Int) ((n + p.bytes.length : Nat) : Int)) := k2 _ _ FP1.out (fun e => by have := Option.some.inj e; omega) (fun c fz e => by injection e with _ e _; exact absurd e (by decide))
      have od2 := OD1.out.others k2 (by omega) (by decide)
      have OD2 := Lib.hid od2
      have q3 := FP2.out.c3
      have q4 := od2.c0
      have q5 := od2.free
      clear b2 lo2 k2 od2
      go_wp2_with fail
      go_end0
      obtain ⟨E, hE⟩ : ∃ E, n + p.bytes.length = E := ⟨_, rfl⟩
      have hk : ∀ k, k ≠ w0.heap.size + 2 → (w2.setCell ⟨w0.heap.size + 2, 0, none⟩ (.int .i64 ((n + p.bytes.length : Nat) : Int))).heap[k]? = w2.heap[k]? := fun k hk => heap_setCell_other w2 ⟨w0.heap.size + 2, 0, none⟩ _ _ hk
      have low : ∀ (z : World), Below w0.heap.size z w → Below w0.heap.size z (w2.setCell ⟨w0.heap.size + 2, 0, none⟩ (.int .i64 ((n + p.bytes.length : Nat) : Int))) := by
        intro z hz
        refine Below.setCell (p := ⟨w0.heap.size + 2, 0, none⟩) ?_ (by show w0.heap.size ≤ w0.heap.size + 2; omega) _
        exact ((hz.trans (HB.out.mono (by omega))).trans LO1.out).trans LO2.out
      have od3 : One (w2.setCell ⟨w0.heap.size + 2, 0, none⟩ (.int .i64 ((n + p.bytes.length : Nat) : Int))) (w0.heap.size + 2) (.int .i64 ((n + p.bytes.length : Nat) : Int)) 3 := OD2.out.put _
      have os3 : One (w2.setCell ⟨w0.heap.size + 2, 0, none⟩ (.int .i64 ((n + p.bytes.length : Nat) : Int))) w0.heap.size (.string s) 9 :=
        (hk _ (by omega)).trans ((OS.out.others K1.out (by omega) (by decide)).others K2.out (by omega) (by decide))
      refine ⟨rfl, ⟨low w0 H1.out, os3, n + p.bytes.length, bs ++ (s.extract d n).data.toList ++ (⟨#[92, 32, 92]⟩ : ByteArray).data.toList, od3, ?_, ?_, ?_, ?_, ?_⟩, low w (Below.refl _ _), ?_⟩
      · refine builder_held B2.out (hk _ (by omega)) fun k c fz hkk => ?_
        refine (hk k (fun e => ?_)).trans hkk
        rw [e] at hkk
        have := OD2.out
        unfold One at this
        rw [this] at hkk
        injection hkk with hkk
        injection hkk with _ hkk _
        exact absurd hkk (by decide)
      · rw [EF.out, List.length_append, ← HN.out]
        omega
      · rw [EF.out, List.length_append]
        have := HN.out
        omega
      · rw [EF.out, EN.out, HQ.out, ST.out]
        have e0 : 1 + (flat acc ++ p.bytes).length - (n + p.bytes.length) = 0 := by
          rw [List.length_append]
          have := HN.out
          omega
        rw [e0, List.take_zero, List.append_nil, H7.out, List.append_assoc]
      · rw [EF.out, EN.out, List.length_append, List.length_append]
        have := H8.out
        omega
      · intro j hj ho
        have n1 : j ≠ w0.heap.size + 1 := fun e => ho (.inr (.inl e))
        have n2 : j ≠ w0.heap.size + 2 := fun e => ho (.inr (.inr (.inl e)))
        obtain ⟨o, hoo⟩ : ∃ o, w.heap[j]? = some o := ⟨_, Array.getElem?_eq_getElem hj⟩
        have hu : ∀ c fz, o ≠ .cells c 5 fz := fun c fz e => ho (.inr (.inr (.inr ⟨c, fz, by rw [hoo, e]⟩)))
        have s1 : (w.alloc (.cells #[.int .i64 (p.form : Int), .int .i64 (p.num : Int), .int .i64 (n : Int), .int .i64 ((n + p.bytes.length : Nat) : Int)] 38)).heap[j]? = some o := (HB.out.block j hj).trans hoo
        have s2 := K1.out j o s1 (fun e => n1 (Option.some.inj e)) hu
        have s3 := K2.out j o s2 (fun e => n1 (Option.some.inj e)) hu
        have s4 := (hk j n2).trans s3
        refine ⟨s4.trans hoo.symm, ?_⟩
        rintro (h | h | h | ⟨c, fz, h⟩)
        · exact ho (.inl h)
        · exact n1 h
        · exact n2 h
        · exact hu c fz (Option.some.inj (s4.symm.trans h))
    · have x0 : ((p.form : Int) == 2) = false := by rw [beq_eq_false_iff_ne]; omega
      have hq : (narrow p).bytes = p.bytes := by unfold narrow; rw [if_neg q]
      have HQ := Lib.hid hq
      clear h1 h2 h3 h4 h7 h8 hb hn ef en l3 hq q ht hp htot hN
      go_enter Tryd.func33, Tryd.ntmps33
      go_wp2
      go_end0
      refine ⟨rfl, ⟨H1.out.trans (HB.out.mono H1.out.size), H2.out.below HB.out H2.out.lt, d, bs, H3.out.below HB.out H3.out.lt, H4.out.below HB.out, ?_, ?_, ?_, ?_⟩, HB.out.mono H1.out.size, ?_⟩
      · rw [EF.out, List.length_append]
        have := HN.out
        omega
      · rw [EF.out, List.length_append]
        have := HN.out
        omega
      · rw [EF.out, EN.out, HQ.out, ← List.append_assoc, ← H7.out, List.append_assoc]
        congr 1
        have e1 : 1 + (flat acc ++ p.bytes).length - d = (n - d) + p.bytes.length := by
          rw [List.length_append]
          have := HN.out
          omega
        rw [e1, List.take_add, rest_drop, show d + (n - d) = n by omega]
        conv => rhs; arg 2; rw [L3.out]
      · rw [EF.out, EN.out, List.length_append, List.length_append, HQ.out]
        have := H8.out
        omega
      · intro j hj ho
        refine ⟨HB.out.block j hj, ?_⟩
        rintro (h | h | h | ⟨c, fz, h⟩)
        · exact ho (.inl h)
        · exact ho (.inr (.inl h))
        · exact ho (.inr (.inr (.inl h)))
        · exact ho (.inr (.inr (.inr ⟨c, fz, (HB.out.block j hj).symm.trans h⟩)))

theorem flat_txt : ∀ (f : Nat) (L : List UInt8), (flat (txtL f L).ps).length ≤ L.length
  | 0, _ => Nat.zero_le _
  | f + 1, L => by
    unfold txtL
    split
    · exact Nat.zero_le _
    · cases hp : pieceL L with
      | error e => exact Nat.zero_le _
      | ok p =>
        obtain ⟨l1, l2, l3⟩ := piece_len L p hp
        have := flat_txt f (L.drop p.bytes.length)
        rw [List.length_drop] at this
        dsimp only
        rw [flat_cons, List.length_append]
        omega
theorem flat_read (L : List UInt8) (h : L ≠ []) : 1 + (flat (readL L).ps).length ≤ L.length := by
  have hl := List.length_pos_iff.2 h
  unfold readL
  split
  · unfold chrL
    split
    · simp [flat]
      omega
    · cases hp : pieceL (L.drop 1) with
      | error e =>
        simp [flat]
        omega
      | ok p =>
        obtain ⟨l1, l2, l3⟩ := piece_len _ p hp
        rw [List.length_drop] at l2
        dsimp only
        split
        · simp [flat]
          omega
        · split
          · simp [flat]
            omega
          · simp [flat]
            omega
  · have := flat_txt L.length (L.drop 1)
    rw [List.length_drop] at this
    omega
theorem whole_form (L : List UInt8) (h : wholeL L = 0) : L.length = 2 + (flat (readL L).ps).length ∧ L.drop (1 + (flat (readL L).ps).length) = L.take 1 := by
  obtain ⟨hq, h0, hl⟩ := whole_ok L h
  rcases read_ok L hq h0 with ⟨q, r, e, h1, h2⟩ | ⟨q, p, r, h3, h1, e, h2, h4, h5, h6⟩
  · have hlen := congrArg List.length e
    rw [List.length_cons, List.length_append, List.length_cons] at hlen
    obtain rfl : r = [] := List.eq_nil_of_length_eq_zero (by omega)
    refine ⟨by rw [hlen]; simp; omega, ?_⟩
    have e1 : L.take 1 = [34] := by rw [e]; rfl
    rw [e1]
    conv => lhs; arg 2; rw [e]
    rw [Nat.add_comm, List.drop_succ_cons, List.drop_left]
  · have hlen := congrArg List.length e
    rw [List.length_cons, List.length_append, List.length_cons] at hlen
    obtain rfl : r = [] := List.eq_nil_of_length_eq_zero (by omega)
    have ef : flat (readL L).ps = p.bytes := by rw [h3]; simp [flat]
    rw [ef]
    refine ⟨by rw [hlen]; simp; omega, ?_⟩
    have e1 : L.take 1 = [39] := by rw [e]; rfl
    rw [e1]
    conv => lhs; arg 2; rw [e]
    rw [Nat.add_comm, List.drop_succ_cons, List.drop_left]
theorem PlnV.new (s : ByteArray) (h0 : 1 ≤ s.size) (w : World) : PlnV s w [] (((w.alloc (.cells #[.string s] 9)).alloc (.cells #[.pointer none, .slice none 0 0] 46)).alloc (.cells #[.int .i64 0] 3)) := by
  have z1 : (w.alloc (.cells #[.string s] 9)).heap.size = w.heap.size + 1 := World.size_alloc _ _
  have o1 := One.new w (.string s) 9
  have b1 := (Below.refl w.heap.size w).alloc (Nat.le_refl _) (.cells #[.string s] 9)
  generalize w.alloc (.cells #[.string s] 9) = w1 at *
  have z2 : (w1.alloc (.cells #[.pointer none, .slice none 0 0] 46)).heap.size = w1.heap.size + 1 := World.size_alloc _ _
  have d2 := Bld.new w1
  have b2 := (Below.refl w1.heap.size w1).alloc (Nat.le_refl _) (.cells #[.pointer none, .slice none 0 0] 46)
  generalize w1.alloc (.cells #[.pointer none, .slice none 0 0] 46) = w2 at *
  have o3 := One.new w2 (.int .i64 0) 3
  have b3 := (Below.refl w2.heap.size w2).alloc (Nat.le_refl _) (.cells #[.int .i64 0] 3)
  generalize w2.alloc (.cells #[.int .i64 0] 3) = w3 at *
  rw [z2, z1] at o3
  rw [z1] at d2
  refine ⟨(b1.trans (b2.mono (by omega))).trans (b3.mono (by omega)), (o1.below b2 o1.lt).below b3 (by omega), 0, [], o3, (d2.base (by omega)).below b3, Nat.zero_le _, h0, ?_, Nat.le_refl _⟩
  simp [flat]
theorem plain_bad (s : ByteArray) (x : Int) (hx : (x != 0) = true) (w : World)
    (C : Hid (Calls Tryd.prog 24 #[.string s, .func (.func 33) #[] #[.pointer (some ⟨w.heap.size + 1, 0, none⟩), .pointer (some ⟨w.heap.size, 0, none⟩), .pointer (some ⟨w.heap.size + 1 + 1, 0, none⟩)]] (((w.alloc (.cells #[.string s] 9)).alloc (.cells #[.pointer none, .slice none 0 0] 46)).alloc (.cells #[.int .i64 0] 3)) fun e w' => e = .returned (.int .i64 x) ∧ Below w.heap.size w w')) :
    Calls Tryd.prog 18 #[.string s] w fun e w' => e = .returned (.tuple #[.string ⟨#[]⟩, .int .i64 x]) ∧ Below w.heap.size w w' := by
  have hmf : ∀ (fn : Fn) (first cap : Array Value) (w : World), (Instr.makeFunc fn first cap).run Tryd.prog w = .ok (.func fn first cap) w := fun _ _ _ _ => rfl
  go_enter Tryd.func18, Tryd.ntmps18
  go_wp2_with fail
  refine C.out.mono ?_
  rintro e w2 ⟨rfl, hb2⟩
  have HB2 := Lib.hid hb2
  clear hb2
  go_wp2_with fail
  go_ret2
  exact ⟨rfl, HB2.out⟩
theorem plain_ok (s : ByteArray) (hs : s.size ≤ 70368744177664) (tot : List Pc) (w : World) (hl : s.size = 2 + (flat tot).length) (hd' : (rest s 0).drop (1 + (flat tot).length) = (rest s 0).take 1)
    (C : Hid (Calls Tryd.prog 24 #[.string s, .func (.func 33) #[] #[.pointer (some ⟨w.heap.size + 1, 0, none⟩), .pointer (some ⟨w.heap.size, 0, none⟩), .pointer (some ⟨w.heap.size + 1 + 1, 0, none⟩)]] (((w.alloc (.cells #[.string s] 9)).alloc (.cells #[.pointer none, .slice none 0 0] 46)).alloc (.cells #[.int .i64 0] 3)) fun e w' => e = .returned (.int .i64 0) ∧ PlnV s w tot w')) :
    Calls Tryd.prog 18 #[.string s] w fun e w' => e = .returned (.tuple #[.string ⟨((rest s 0).take 1 ++ (flat (tot.map narrow) ++ (rest s 0).take 1)).toArray⟩, .int .i64 0]) ∧ Below w.heap.size w w' := by
  have hmf : ∀ (fn : Fn) (first cap : Array Value) (w : World), (Instr.makeFunc fn first cap).run Tryd.prog w = .ok (.func fn first cap) w := fun _ _ _ _ => rfl
  have HD := Lib.hid hd'
  have HL := Lib.hid hl
  obtain ⟨X, hX⟩ : ∃ X, (rest s 0).take 1 ++ (flat (tot.map narrow) ++ (rest s 0).take 1) = X := ⟨_, rfl⟩
  rw [hX]
  have HX := Lib.hid hX
  clear hd' hl hX
  go_enter Tryd.func18, Tryd.ntmps18
  go_wp2_with fail
  refine C.out.mono ?_
  rintro e w2 ⟨rfl, h1, h2, d, bs, h3, h4, h5, h6, h7, h8⟩
  have hl := HL.out
  have H1 := Lib.hid h1
  have H7 := Lib.hid h7
  have r0 := h2.c0
  have r1 := h3.c0
  have i1 : (d : Int) ≤ (s.size : Int) := by omega
  have hz := size_tail s d
  have e1 : (s.extract d s.size).data.toList = rest s d := by rw [Lib.extract_to_end]; rfl
  have hbl : bs.length + (1 + (flat tot).length - d) ≤ s.size := by
    have := congrArg List.length h7
    rw [List.length_append, List.length_append, List.length_take, List.length_take, rest_len, rest_len] at this
    omega
  have C1 := Lib.hid (wstr_kept _ _ bs (s.extract d s.size) w2 h4 (by rw [hz]; omega) h1.size)
  have ET : Hid (bs ++ (s.extract d s.size).data.toList = X) := by
    unfold Hid
    rw [← HX.out]
    have hs2 : rest s d = (rest s d).take (1 + (flat tot).length - d) ++ (rest s 0).take 1 := by
      rw [← HD.out, rest_drop, Nat.zero_add]
      conv => lhs; rw [← List.take_append_drop (1 + (flat tot).length - d) (rest s d)]
      rw [rest_drop, show d + (1 + (flat tot).length - d) = 1 + (flat tot).length by omega]
    rw [e1]
    conv => lhs; rw [hs2]
    rw [← List.append_assoc, H7.out, List.append_assoc]
  clear h1 h2 h3 h4 h7 h8 hz e1 hbl hl
  go_wp2_with fail
  refine C1.out.mono ?_
  rintro e w3 ⟨rfl, b3, lo3, -⟩
  rw [ET.out] at b3
  have B3 := Lib.hid b3
  have LO3 := Lib.hid (H1.out.trans lo3)
  have C2 := Lib.hid (bstr_any _ _ _ w3 b3 (Nat.le_trans H1.out.size lo3.size))
  clear b3 lo3 r0 r1
  go_wp2_with fail
  refine C2.out.mono ?_
  rintro e w4 ⟨rfl, lo4⟩
  have LO4 := Lib.hid (LO3.out.trans lo4)
  clear lo4
  go_wp2_with fail
  go_ret2
  exact ⟨rfl, LO4.out⟩
theorem Plain_any (s : ByteArray) (hs : s.size ≤ 70368744177664) (w : World) (hN : Nam w) :
    Calls Tryd.prog 18 #[.string s] w fun e w' => e = .returned (.tuple #[.string ⟨(plainL (rest s 0)).toArray⟩, .int .i64 (wholeL (rest s 0))]) ∧ Below w.heap.size w w' := by
  have bad : wholeL (rest s 0) ≠ 0 → (Calls Tryd.prog 24 #[.string s, .func (.func 33) #[] #[.pointer (some ⟨w.heap.size + 1, 0, none⟩), .pointer (some ⟨w.heap.size, 0, none⟩), .pointer (some ⟨w.heap.size + 1 + 1, 0, none⟩)]] (((w.alloc (.cells #[.string s] 9)).alloc (.cells #[.pointer none, .slice none 0 0] 46)).alloc (.cells #[.int .i64 0] 3)) fun e w' => e = .returned (.int .i64 (wholeL (rest s 0))) ∧ Below w.heap.size w w') →
      Calls Tryd.prog 18 #[.string s] w fun e w' => e = .returned (.tuple #[.string ⟨(plainL (rest s 0)).toArray⟩, .int .i64 (wholeL (rest s 0))]) ∧ Below w.heap.size w w' := by
    intro h c
    have hp : plainL (rest s 0) = [] := by unfold plainL; rw [if_neg h]
    rw [hp]
    exact plain_bad s _ (bne_iff_ne.2 h) w c
  cases hq : quoted (rest s 0) with
  | false =>
    have h50 : wholeL (rest s 0) = 50 := by unfold wholeL; rw [if_neg (by rw [hq]; decide)]
    refine bad (by rw [h50]; decide) ?_
    refine (whole_none s (by omega) _ _ hq _).mono ?_
    rintro e w' ⟨rfl, rfl⟩
    exact ⟨by rw [h50], (((Below.refl w.heap.size w).alloc (Nat.le_refl _) _).alloc (by simp) _).alloc (by simp; omega) _⟩
  | true =>
    have hpos : 1 ≤ s.size := by
      rcases Nat.eq_zero_or_pos s.size with h | h
      · unfold quoted at hq
        rw [hd_rest_out s 0 (by omega)] at hq
        exact absurd hq (by decide)
      · exact h
    have hfl := flat_read (rest s 0) (rest_ne s 0 hpos)
    rw [rest_len, Nat.sub_zero] at hfl
    have c := whole_any (vis_plain s hs (readL (rest s 0)).ps hfl w hN) (by omega) _ (PlnV.new s hpos w)
    by_cases h : wholeL (rest s 0) = 0
    · obtain ⟨f1, f2⟩ := whole_form _ h
      rw [rest_len, Nat.sub_zero] at f1
      have hp : plainL (rest s 0) = (rest s 0).take 1 ++ (flat ((readL (rest s 0)).ps.map narrow) ++ (rest s 0).take 1) := by unfold plainL; rw [if_pos h]
      rw [hp, h]
      refine plain_ok s hs _ w f1 f2 ?_
      refine c.mono ?_
      rintro e w' ⟨rfl, -, h2⟩
      exact ⟨by rw [h], h2 h⟩
    · refine bad h ?_
      refine c.mono ?_
      rintro e w' ⟨rfl, h1, -⟩
      exact ⟨rfl, ((((Below.refl w.heap.size w).alloc (Nat.le_refl _) _).alloc (by simp) _).alloc (by simp; omega) _).trans h1⟩
end Go.Proofs.YtdppfhgihoibnaaDoor.Qt
