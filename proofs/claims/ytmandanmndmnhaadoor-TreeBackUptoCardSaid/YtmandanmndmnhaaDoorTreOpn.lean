/-
  Arguments that are trees: how they are read, and what they weigh. No program is run here.
-/
import Derived.Test.YtmandanmndmnhaaDoorTreOwn
namespace Go.Proofs.YtmandanmndmnhaaDoor.Tre
open Tks Go.RowKit
set_option linter.unusedSimpArgs false
set_option linter.unusedVariables false

theorem cellsNd : Tryd.prog.cellsOf 24 = 6 := by kernel_rfl
theorem cellsKids : Tryd.prog.cellsOf 22 = 1 := by kernel_rfl
/-- What a row of trees weighs. -/
def wF : Fo → Nat
  | .nil => 0
  | .cons h k r => h.text.size + 6 + wF k + wF r
theorem size_le_w : ∀ f : Fo, sizeF f ≤ wF f
  | .nil => Nat.le_refl _
  | .cons h k r => by
    have := size_le_w k
    have := size_le_w r
    simp only [sizeF, wF]
    omega
theorem esc_le : ∀ t : List UInt8, (escL t).length ≤ 3 * t.length
  | [] => Nat.le_refl _
  | c :: t => by
    have ih := esc_le t
    have : (escB c).length ≤ 3 := by
      unfold escB
      split <;> simp
    unfold escL at ih ⊢
    rw [List.flatMap_cons, List.length_append, List.length_cons]
    omega
theorem digL_le (n : Nat) : (digL n).length ≤ 2 := by
  unfold digL
  split <;> simp
theorem node_le (h : Hd) (s : List UInt8) : (nodeT h s).length ≤ 3 * h.text.size + 5 + s.length := by
  have h1 := digL_le h.form.toNat
  have h2 := digL_le h.kind.toNat
  have h3 := esc_le h.text.data.toList
  have h4 : h.text.data.toList.length = h.text.size := by rw [Array.length_toList]; rfl
  unfold nodeT
  split
  · simp only [List.length_append, List.length_cons, List.length_nil]
    omega
  · simp only [List.length_append, List.length_cons, List.length_nil]
    split <;> simp only [List.length_cons, List.length_nil] <;> omega
theorem show_le : ∀ f : Fo, (showF f).length ≤ 6 * wF f
  | .nil => Nat.le_refl _
  | .cons h k r => by
    have h1 := show_le k
    have h2 := show_le r
    have h3 := node_le h (showF k)
    simp only [showF, wF, List.length_cons, List.length_append]
    omega
theorem FoIn.on {w : World} : ∀ (f : Fo) (b off : Nat), FoIn w f b off → FoOn w (fun _ => True) f b off
  | .nil, _, _, _ => trivial
  | .cons h k r, b, off, ⟨⟨vk, c0, c1, c2, c3, c4, c5, hk⟩, hr⟩ => by
    refine ⟨⟨vk, c0, c1, c2, c3, c4, c5, ?_⟩, FoIn.on r b (off + 6) hr⟩
    rcases hk with h1 | ⟨b2, off2, c, e, hm, h1, h2⟩
    · exact .inl h1
    · exact .inr ⟨b2, off2, c, e, hm, h1, trivial, FoIn.on k b2 off2 h2⟩
theorem KArg.on {w : World} {v : Value} {k : Fo} (h : KArg w v k) : KOn w (fun _ => True) v k := by
  rcases h with h | ⟨b, off, c, e, hm, h1, h2⟩
  · exact .inl h
  · exact .inr ⟨b, off, c, e, hm, h1, trivial, h2.on⟩
def wX (x : Nv) : Nat := x.h.text.size + 6 + wF x.k
theorem sum_le {H α : Type} : ∀ (l : List Nv) (E : List (DataW H × α)), l.length = E.length → (∀ (i : Nat) (x : Nv) e, l[i]? = some x → E[i]? = some e → wX x ≤ Rows.uptoBulk e.1) → wF (foL l) ≤ Rows.uptoBulkAll (E.map (·.1))
  | [], E, _, _ => Nat.zero_le _
  | x :: l, [], hl, _ => by simp at hl
  | x :: l, e :: E, hl, h => by
    have h1 := h 0 x e rfl rfl
    have h2 := sum_le l E (by simpa using hl) (fun i x e hx he => h (i + 1) x e hx he)
    unfold wX at h1
    simp only [List.map_cons, Rows.uptoBulkAll, foL, wF]
    omega
set_option maxRecDepth 1000000 in
theorem open_both {H : Type} {enc : TypeId × Value → H} {W : World} {base : Nat} {sp : Nat → Bool} {held : Bool} : ∀ n : Nat,
    (∀ (cs : List Value) (d : DataW H) (p : List MemPlace), DataW.trod enc Tryd.prog W base sp held n 22 cs = some (d, p) → (∀ y ∈ p, y.block < W.heap.size) → ∃ v k, cs = [v] ∧ KArg W v k ∧ wF k ≤ Rows.uptoBulk d) ∧
    (∀ (cs : List Value) (d : DataW H) (p : List MemPlace), DataW.trod enc Tryd.prog W base sp held n 24 cs = some (d, p) → (∀ y ∈ p, y.block < W.heap.size) → ∃ x : Nv, cs = ndC x ∧ KArg W x.v x.k ∧ wX x ≤ Rows.uptoBulk d)
  | 0 => ⟨fun cs d p h _ => by simp [DataW.trod] at h, fun cs d p h _ => by simp [DataW.trod] at h⟩
  | n + 1 => by
    obtain ⟨ihk, ihn⟩ := open_both (H := H) (enc := enc) (W := W) (base := base) (sp := sp) (held := held) n
    refine ⟨fun cs d p h hlt => ?_, fun cs d p h hlt => ?_⟩
    · rcases DataW.trod_slice Tryd.underlying22 h with ⟨rfl, hx⟩ | ⟨a, len, cap, elems, rest, m, hf, rfl, hx, hb, hl, hm, hlen, hel, hsp, hns⟩
      · exact ⟨_, .nil, rfl, KArg.nil _ _ _, Nat.zero_le _⟩
      · obtain rfl : n = m := by omega
        injection hx with hd hp
        rw [cellsNd] at hel hp
        obtain ⟨l, hll, hq⟩ := list_of (n := len) (P := fun i (x : Nv) => (∀ k, k < 6 → W.cell? (a.add (i * 6 + k)) = (ndC x)[k]?) ∧ KArg W x.v x.k ∧ ∀ e, elems[i]? = some e → wX x ≤ Rows.uptoBulk e.1) (by
          intro i hi
          have h0 := hel i hi
          rw [List.getElem?_eq_getElem (by omega)] at h0
          obtain ⟨cs', hc, ht⟩ := Option.bind_eq_some_iff.1 h0
          obtain ⟨x, e1, e2, e3⟩ := ihn cs' _ _ ht (fun y hy => hlt y (by
            rw [hp]
            exact List.mem_append_right _ (List.mem_flatMap.2 ⟨elems[i], List.mem_append_left _ (List.getElem_mem _), hy⟩)))
          obtain ⟨_, _, hat⟩ := World.cells?_some hc
          refine ⟨x, fun k hk => ?_, e2, fun e he => ?_⟩
          · rw [← Deep.add_add, hat k hk, e1]
          · rw [List.getElem?_eq_getElem (by omega)] at he
            injection he with he
            rw [← he]
            exact e3)
        have hw : wF (foL l) ≤ Rows.uptoBulk d := by
          rw [hd]
          have := sum_le l elems (by omega) (fun i x e hx he => (hq i x hx).2.2 e he)
          simp only [Rows.uptoBulk]
          omega
        refine ⟨_, foL l, rfl, ?_, hw⟩
        by_cases hl0 : len = 0
        · subst hl0
          obtain rfl : l = [] := List.eq_nil_of_length_eq_zero hll
          exact .inl ⟨rfl, _, _, rfl⟩
        · obtain ⟨x0, hx0⟩ : ∃ t, l[0]? = some t := ⟨_, List.getElem?_eq_getElem (by omega)⟩
          have hc0 := (hq 0 x0 hx0).1 0 (by omega)
          obtain ⟨b, off, spot⟩ := a
          have hspot : spot = none := by
            have : W.cell? ((⟨b, off, spot⟩ : Addr).add 0) = some (.int .i64 x0.h.kind) := by simpa [ndC] using hc0
            simpa [Addr.add] using World.cell?_spot this
          subst hspot
          have hbW : b < W.heap.size := by
            refine hlt (.cell b off) ?_
            rw [hp]
            exact List.mem_append_left _ (MemPlace.mem_row.2 ⟨0, by omega, by simp⟩)
          refine .inr ⟨b, off, cap, by rw [len_foL, hll], by rw [len_foL, hll]; omega, hbW, (fo_cells (P := fun _ => True) l off (fun i x hx k hk => ?_) (fun x hx => ?_)).in⟩
          · have := (hq i x hx).1 k hk
            rw [← this]
            have e : (⟨b, off, none⟩ : Addr).add (i * 6 + k) = ⟨b, off + i * 6 + k, none⟩ := by
              rw [show off + i * 6 + k = off + (i * 6 + k) by omega]
              unfold Addr.add
              split <;> simp_all
            rw [e]
          · obtain ⟨i, hi⟩ := List.mem_iff_getElem?.1 hx
            exact (hq i x hi).2.1.on
    · obtain ⟨xs, m, hf, hx, hlen, hxl, hfs⟩ := DataW.trod_struct Tryd.underlying24 h
      obtain rfl : n = m := by omega
      rw [cellsNd] at hlen
      have h0 := hfs 0 _ rfl
      have h1 := hfs 1 _ rfl
      have h2 := hfs 2 _ rfl
      have h3 := hfs 3 _ rfl
      have h4 := hfs 4 _ rfl
      have h5 := hfs 5 _ rfl
      match cs, hlen with
      | [c0, c1, c2, c3, c4, c5], _ =>
        match xs, hxl with
        | [y0, y1, y2, y3, y4, y5], _ =>
          simp only [cellsIntT, cellsStrT, cellsKids, List.drop_zero, List.drop_succ_cons, List.take_succ_cons, List.take_zero, List.getElem?_cons_zero, List.getElem?_cons_succ] at h0 h1 h2 h3 h4 h5
          obtain ⟨k, e0, g0, _⟩ := DataW.trod_int Tryd.underlying3 h0
          obtain ⟨f, e1, g1, _⟩ := DataW.trod_int Tryd.underlying3 h1
          obtain ⟨s, e2, g2, _⟩ := DataW.trod_string Tryd.underlying9 h2
          obtain ⟨l, e3, g3, _⟩ := DataW.trod_int Tryd.underlying3 h3
          obtain ⟨c, e4, g4, _⟩ := DataW.trod_int Tryd.underlying3 h4
          obtain ⟨d5, p5⟩ := y5
          injection hx with hd hp
          obtain ⟨v, kk, e5, hk, hw⟩ := ihk _ d5 p5 h5 (fun y hy => hlt y (by
            rw [hp]
            simp only [List.flatMap_cons, List.flatMap_nil, List.append_nil, List.mem_append]
            exact .inr (.inr (.inr (.inr (.inr hy))))))
          injection e0 with e0 _
          injection e1 with e1 _
          injection e2 with e2 _
          injection e3 with e3 _
          injection e4 with e4 _
          injection e5 with e5 _
          refine ⟨⟨⟨k, f, s, l, c⟩, kk, v⟩, by rw [e0, e1, e2, e3, e4, e5]; rfl, hk, ?_⟩
          rw [hd, g0, g1, g2, g3, g4]
          unfold wX
          simp only [List.map_cons, List.map_nil, Rows.uptoBulk, Rows.uptoBulkAll, DataW.lit]
          rw [Lib.size_eq]
          omega
end Go.Proofs.YtmandanmndmnhaaDoor.Tre
