/-
  Tokens as they are read: slices of them that came in or that the call has made, what lies in them, how they grow, when two hold the same. No condition but sizes.
-/
import Derived.Test.YtmgclgojmckfhaaRows
import Derived.WalkKit
import Derived.OwnWalk
import Derived.Laws.OwnMore
import Derived.Maps.AppendAt
import Derived.Deep.AppendLies
import Derived.Deep.AppendSrc
import Derived.Deep.Slices
import Derived.Deep.Fields
import Derived.ChangeSame
import Derived.Lib.Hide
import Derived.Lib.MapLaws
import Derived.Deep.Draws
import Derived.Deep.QuietTactic
import Derived.BigQuiet
import Derived.LoopTactic
import Derived.Handy
import Derived.Deep.RegionWith
import Derived.Deep.RegionHeld3
import Derived.Deep.Cut
namespace Go.Proofs.Ytmgclgojmckfhaa.Tks
open Go.RowKit
set_option linter.unusedSimpArgs false
set_option linter.unusedVariables false

theorem below_drewN {B : Nat} {a w : World} (h : Below B a w) (n : Nat) : Below B a (w.drewN n) := ⟨h.os, h.tape, h.output, h.size, h.block⟩
theorem undrew {w w' : World} {B n : Nat} (h : Below B (w.drewN n) w') : Below B w w' := ⟨h.os, h.tape, h.output, h.size, h.block⟩
theorem infoTok : (Try.prog.info? 47).map (fun i => (i.zero, i.size, i.bytes)) = some (some (.agg #[.int .i64 0, .string ⟨#[]⟩, .int .i64 0, .int .i64 0]), 4, 40) := by kernel_rfl
theorem add_plain (g j : Nat) : (⟨g, 0, none⟩ : Addr).add j = ⟨g, j, none⟩ := by unfold Addr.add; split <;> simp_all
theorem flat_at {α : Type} (f : α → List Value) (k : Nat) (hf : ∀ x, (f x).length = k) : ∀ (l : List α) (i j : Nat) (x : α), l[i]? = some x → j < k → (l.flatMap f)[i * k + j]? = (f x)[j]?
  | [], i, j, x, h, _ => by simp at h
  | y :: l, 0, j, x, h, hj => by
    simp at h
    subst h
    rw [List.flatMap_cons, Nat.zero_mul, Nat.zero_add, List.getElem?_append_left (by rw [hf]; exact hj)]
  | y :: l, i + 1, j, x, h, hj => by
    have := flat_at f k hf l i j x (by simpa using h) hj
    rw [List.flatMap_cons, List.getElem?_append_right (by rw [hf, Nat.succ_mul]; omega), hf, Nat.succ_mul, show i * k + k + j - k = i * k + j by omega]
    exact this
theorem flat_len {α : Type} (f : α → List Value) (k : Nat) (hf : ∀ x, (f x).length = k) : ∀ l : List α, (l.flatMap f).length = l.length * k
  | [] => by simp
  | y :: l => by rw [List.flatMap_cons, List.length_append, hf, flat_len f k hf l, List.length_cons, Nat.succ_mul, Nat.add_comm]
theorem own_slice {w : World} {B size n : Nat} {e : TypeId} {v : Value} {xs : List Value} (h : w.ownsRow B e size v n xs) : ∃ a k c, v = .slice a k c := by
  rcases h.2 with ⟨rfl, _⟩ | ⟨g, cap, cur, rfl, _⟩
  · exact ⟨_, _, _, rfl⟩
  · exact ⟨_, _, _, rfl⟩
theorem own_len {w : World} {B size n : Nat} {e : TypeId} {v : Value} {xs : List Value} (h : w.ownsRow B e size v n xs) : ∃ a c, v = .slice a n c := by
  rcases h.2 with ⟨rfl, h0⟩ | ⟨g, cap, cur, rfl, _⟩
  · subst h0
    exact ⟨_, _, rfl⟩
  · exact ⟨_, _, rfl⟩
/-- A token as it is read. -/
structure Tk where
  kind : Int
  text : ByteArray
  line : Int
  col : Int
def tkC (t : Tk) : List Value := [.int .i64 t.kind, .string t.text, .int .i64 t.line, .int .i64 t.col]
/-- The tokens that a slice holds. -/
def TkArg (w : World) (v : Value) (l : List Tk) : Prop :=
  (l = [] ∧ ∃ a c, v = .slice a 0 c) ∨
  (∃ b off c, v = .slice (some ⟨b, off, none⟩) l.length c ∧ b < w.heap.size ∧ ∀ (i : Nat) (t : Tk), l[i]? = some t → ∀ k : Nat, k < 4 → w.cell? ⟨b, off + i * 4 + k, none⟩ = (tkC t)[k]?)
theorem TkArg.below {w w' : World} {v : Value} {l : List Tk} {B : Nat} (h : TkArg w v l) (hb : Below B w w') (hB : w.heap.size ≤ B) : TkArg w' v l := by
  rcases h with h | ⟨b, off, c, hv, hlt, hc⟩
  · exact .inl h
  · exact .inr ⟨b, off, c, hv, Nat.lt_of_lt_of_le hlt hb.size, fun i t ht k hk => (World.cell?_of_block (hb.block b (Nat.lt_of_lt_of_le hlt hB))).trans (hc i t ht k hk)⟩
theorem idx_at (k n : Nat) (h : k < n) (hm : n ≤ 3518437208880) : wrap64 ((k : Int) + 1) = (k : Int) + 1 := by
  have h1 : (k : Int) ≤ 3518437208880 := by omega
  have h2 : (0 : Int) ≤ (k : Int) := by omega
  generalize (k : Int) = z at h1 h2 ⊢
  unfold wrap64
  omega
theorem TkArg.len {w : World} {v : Value} {l : List Tk} (h : TkArg w v l) : ∃ a c, v = .slice a l.length c := by
  rcases h with ⟨rfl, a, c, rfl⟩ | ⟨b, off, c, rfl, -⟩
  · exact ⟨a, c, rfl⟩
  · exact ⟨_, c, rfl⟩
theorem TkArg.cells {w : World} {v : Value} {l : List Tk} (h : TkArg w v l) (hl : l.length ≠ 0) : ∃ b off c, v = .slice (some ⟨b, off, none⟩) l.length c ∧ b < w.heap.size ∧ ∀ (i : Nat) (t : Tk), l[i]? = some t → ∀ k : Nat, k < 4 → w.cell? ⟨b, off + i * 4 + k, none⟩ = (tkC t)[k]? := by
  rcases h with ⟨rfl, -⟩ | h
  · exact absurd rfl hl
  · exact h
/-- Cells that a later world still holds. -/
def TkIn (w : World) (b off : Nat) (l : List Tk) : Prop := b < w.heap.size ∧ ∀ (i : Nat) (t : Tk), l[i]? = some t → ∀ k : Nat, k < 4 → w.cell? ⟨b, off + i * 4 + k, none⟩ = (tkC t)[k]?
theorem TkIn.below {w w' : World} {b off : Nat} {l : List Tk} {B : Nat} (h : TkIn w b off l) (hb : Below B w w') (hB : w.heap.size ≤ B) : TkIn w' b off l :=
  ⟨Nat.lt_of_lt_of_le h.1 hb.size, fun i t ht k hk => (World.cell?_of_block (hb.block b (Nat.lt_of_lt_of_le h.1 hB))).trans (h.2 i t ht k hk)⟩
theorem TkIn.four {w : World} {b off : Nat} {l : List Tk} (h : TkIn w b off l) (i : Nat) (t : Tk) (ht : l[i]? = some t) :
    w.cell? ⟨b, off + i * 4, none⟩ = some (.int .i64 t.kind) ∧ w.cell? ⟨b, off + i * 4 + 1, none⟩ = some (.string t.text) ∧ w.cell? ⟨b, off + i * 4 + 2, none⟩ = some (.int .i64 t.line) ∧ w.cell? ⟨b, off + i * 4 + 3, none⟩ = some (.int .i64 t.col) :=
  ⟨h.2 i t ht 0 (by omega), h.2 i t ht 1 (by omega), h.2 i t ht 2 (by omega), h.2 i t ht 3 (by omega)⟩
theorem run_append_nil {P : Program} (w : World) (t ty e : TypeId) (i : TypeInfo) (ht : P.underlying t = some (.slice e)) (hi : P.info? e = some i) (v : Value) (base size n : Nat) (xs : List Value) (hown : w.ownsRow base e size v n xs) (c : Nat) :
    (Builtin.append_ #[t, t] ty #[v, .slice none 0 c]).run P w = .ok v w := by
  rcases hown.2 with ⟨rfl, rfl⟩ | ⟨g, cap, cur, rfl, _, _, hnc, _, _, _⟩
  · simp [Builtin.append_, run_underlying ht, sizeOf, typeInfo, hi, Builtin.lenOf, Builtin.firstCells]
  · have := run_append_room_src w t t ty e i ht hi g 0 n cap (.slice none 0 c) 0 [] (Src.ofNil w ht c) (by omega) (fun j hj => absurd hj (by simp)) (fun j hj => absurd hj (by simp))
    simpa [World.setCells] using this
theorem tk_len (t : Tk) : (tkC t).length = 4 := rfl
theorem own_arg {w : World} {B : Nat} {v : Value} {l : List Tk} (h : w.ownsRow B 47 4 v l.length (l.flatMap tkC)) : TkArg w v l := by
  rcases h.2 with ⟨rfl, h0⟩ | ⟨g, cap, cur, rfl, hb, hg, _⟩
  · obtain rfl : l = [] := List.eq_nil_of_length_eq_zero h0
    exact .inl ⟨rfl, _, _, rfl⟩
  · refine .inr ⟨g, 0, cap, rfl, lt_of_block hg, fun i t ht k hk => ?_⟩
    have h0 := flat_at tkC 4 tk_len l i k t ht hk
    obtain ⟨u, hu⟩ : ∃ u, (tkC t)[k]? = some u := ⟨_, List.getElem?_eq_getElem (by rw [tk_len]; exact hk)⟩
    rw [hu] at h0 ⊢
    have := World.ownsRow.cells h (g := g) rfl _ _ h0
    rw [add_plain] at this
    rw [Nat.zero_add]
    exact this
theorem tk_news {w : World} {b off : Nat} {l : List Tk} (h : ∀ (i : Nat) (t : Tk), l[i]? = some t → ∀ k : Nat, k < 4 → w.cell? ⟨b, off + i * 4 + k, none⟩ = (tkC t)[k]?) (j : Nat) (u : Value) (hj : (l.flatMap tkC)[j]? = some u) : w.cell? ((⟨b, off, none⟩ : Addr).add j) = some u := by
  have hlen := (List.getElem?_eq_some_iff.1 hj).1
  rw [flat_len tkC 4 tk_len] at hlen
  have hi : j / 4 < l.length := by omega
  have h0 := flat_at tkC 4 tk_len l (j / 4) (j % 4) _ (List.getElem?_eq_getElem hi) (by omega)
  rw [show j / 4 * 4 + j % 4 = j by omega, hj] at h0
  have h1 := h (j / 4) _ (List.getElem?_eq_getElem hi) (j % 4) (by omega)
  rw [← h0] at h1
  have e : (⟨b, off, none⟩ : Addr).add j = ⟨b, off + j / 4 * 4 + j % 4, none⟩ := by
    rw [show off + j / 4 * 4 + j % 4 = off + j by omega]
    unfold Addr.add
    split <;> simp_all
  rw [e]
  exact h1
/-- append of a slice's tokens, whatever the slice, to a row of the call's own. -/
theorem append_toks (w : World) {ops : Array Oper} {rest : List Oper} {o : Oper} {a : Act} {Q : Exit → Act → World → Prop} (hg : o.guard = none) (sl x : Operand) (hop : o.op = Op.call { callee := Callee.builtin Builtin.append, args := #[sl, x], argTypes := #[22, 22] })
    (base : Nat) (v : Value) (n : Nat) (xs : List Value) (hs : a.eval sl = v) (hown : w.ownsRow base 47 4 v n xs) (vx : Value) (l : List Tk) (hx : a.eval x = vx) (hsrc : TkArg w vx l) (b1 : n + l.length ≤ 3518437208880) (hB : base ≤ w.heap.size)
    (hK : ∀ v' w', w'.ownsRow base 47 4 v' (n + l.length) (xs ++ l.flatMap tkC) → w.grownBy w' v.ownBlock → (v'.ownBlock = v.ownBlock ∨ v'.ownBlock = some w.heap.size) → wpList Try.prog ops Q rest (a.put o.dst v') w') :
    wpList Try.prog ops Q (o :: rest) a w := by
  obtain ⟨i0, hi, hz0, hz1, hz2⟩ := info_parts infoTok
  have one : ∀ u ∈ l.flatMap tkC, u.oneCell' = true := by
    intro u hu
    obtain ⟨t, _, ht⟩ := List.mem_flatMap.1 hu
    simp only [tkC, List.mem_cons, List.not_mem_nil, or_false] at ht
    rcases ht with rfl | rfl | rfl | rfl <;> rfl
  have some_ : ∀ (ad : Addr) (c : Nat), vx = .slice (some ad) l.length c → (∀ j u, (l.flatMap tkC)[j]? = some u → w.cell? (ad.add j) = some u) → wpList Try.prog ops Q (o :: rest) a w := by
    intro ad c hv hc
    subst hv
    refine wpList_append_own_at w hg sl x 22 hop base 47 i0 _ 4 40 Try.underlying22 hi hz0 hz1 hz2 rfl (by decide) v n xs hs hown ad l.length c (l.flatMap tkC) hx (flat_len tkC 4 tk_len l) hc one (by unfold maxLen; omega) (by omega) hB ?_
    intro v' w' h1 h2 _ h4
    exact hK v' w' h1 h2 h4
  rcases hsrc with ⟨rfl, ad, c, rfl⟩ | ⟨b, off, c, rfl, _, hc⟩
  · cases ad with
    | some ad => exact some_ ad c rfl (fun j u hj => by simp at hj)
    | none =>
      refine wpList_plain hg fun K hK' => ?_
      have hr := run_append_nil (P := Try.prog) w 22 o.type 47 i0 Try.underlying22 hi v base 4 n xs hown c
      unfold Oper.wp execOp
      simp only [hop, resolve, invoke, builtin, Sem.run_bind, Sem.run_pure, Result.andThen_ok, List.map_toArray, List.map_cons, List.map_nil, hs, hx, hr]
      refine hK' _ _ (hK v w (by simpa using hown) ⟨rfl, rfl, rfl, Nat.le_refl _, fun _ _ _ => rfl⟩ (.inl rfl))
  · exact some_ _ c rfl (tk_news hc)

theorem cellsTok : Try.prog.cellsOf 47 = 4 := by kernel_rfl
theorem cellsIntT : Try.prog.cellsOf 3 = 1 := by kernel_rfl
theorem cellsStrT : Try.prog.cellsOf 9 = 1 := by kernel_rfl
def tkD {H : Type} (t : Tk) : DataW H := .agg [.lit (.int .i64 t.kind), .lit (.string t.text.data.toList), .lit (.int .i64 t.line), .lit (.int .i64 t.col)]
set_option maxRecDepth 1000000 in
theorem read_tok {H : Type} {enc : TypeId × Value → H} {w : World} {base : Nat} {sp : Nat → Bool} {held : Bool} {n : Nat} {cs : List Value} {x : DataW H × List MemPlace} (h : DataW.trod enc Try.prog w base sp held n 47 cs = some x) :
    ∃ t : Tk, cs = tkC t ∧ x.1 = tkD t ∧ (Lit.int .i64 t.line).wf = true := by
  obtain ⟨xs, m, _, hx, hlen, hxl, hf⟩ := DataW.trod_struct Try.underlying47 h
  rw [cellsTok] at hlen
  have h0 := hf 0 _ rfl
  have h1 := hf 1 _ rfl
  have h2 := hf 2 _ rfl
  have h3 := hf 3 _ rfl
  match cs, hlen with
  | [c0, c1, c2, c3], _ =>
    match xs, hxl with
    | [y0, y1, y2, y3], _ =>
      simp only [cellsIntT, cellsStrT, List.drop_zero, List.drop_succ_cons, List.take_succ_cons, List.take_zero, List.getElem?_cons_zero, List.getElem?_cons_succ] at h0 h1 h2 h3
      obtain ⟨k, e0, g0, _⟩ := DataW.trod_int Try.underlying3 h0
      obtain ⟨s, e1, g1, _⟩ := DataW.trod_string Try.underlying9 h1
      obtain ⟨l, e2, g2, hwf⟩ := DataW.trod_int Try.underlying3 h2
      obtain ⟨c, e3, g3, _⟩ := DataW.trod_int Try.underlying3 h3
      injection e0 with e0 _
      injection e1 with e1 _
      injection e2 with e2 _
      injection e3 with e3 _
      refine ⟨⟨k, s, l, c⟩, by rw [e0, e1, e2, e3]; rfl, ?_, hwf⟩
      rw [hx, g0, g1, g2, g3]
      rfl
theorem list_of {α : Type} {n : Nat} {P : Nat → α → Prop} : (∀ i, i < n → ∃ x, P i x) → ∃ l : List α, l.length = n ∧ ∀ i x, l[i]? = some x → P i x := by
  induction n with
  | zero => exact fun _ => ⟨[], rfl, fun i x h => by simp at h⟩
  | succ n ih =>
    intro h
    obtain ⟨l, hl, hp⟩ := ih fun i hi => h i (by omega)
    obtain ⟨y, hy⟩ := h n (by omega)
    refine ⟨l ++ [y], by simp [hl], fun i x hx => ?_⟩
    by_cases q : i < l.length
    · rw [List.getElem?_append_left q] at hx
      exact hp i x hx
    · rw [List.getElem?_append_right (by omega)] at hx
      have hi : i - l.length = 0 := by
        by_cases z : i - l.length = 0
        · exact z
        · rw [List.getElem?_eq_none (by simp; omega)] at hx
          cases hx
      rw [hi] at hx
      simp at hx
      subst hx
      obtain rfl : i = n := by omega
      exact hy
/-- What tokens weigh. -/
def weigh (l : List Tk) : Nat := (l.map fun t => t.text.size + 1).sum
theorem weigh_len (l : List Tk) : l.length ≤ weigh l := by
  unfold weigh
  induction l with
  | nil => exact Nat.le_refl _
  | cons t r ih =>
    rw [List.map_cons, List.sum_cons, List.length_cons]
    omega
theorem bulk_tok {H : Type} (t : Tk) : t.text.size + 1 ≤ Rows.uptoBulk (tkD t : DataW H) := by
  unfold tkD
  simp only [Rows.uptoBulk, Rows.uptoBulkAll]
  rw [Lib.size_eq]
  omega
theorem bulk_toks {H : Type} : ∀ (l : List Tk) (ds : List (DataW H)), ds = l.map tkD → weigh l ≤ Rows.uptoBulkAll ds
  | [], ds, h => by
    subst h
    exact Nat.zero_le _
  | t :: r, ds, h => by
    subst h
    have h1 := bulk_toks (H := H) r (r.map tkD) rfl
    have h2 := bulk_tok (H := H) t
    rw [List.map_cons]
    unfold weigh at h1 ⊢
    rw [List.map_cons, List.sum_cons]
    simp only [Rows.uptoBulkAll]
    omega
theorem open_toks {H : Type} {enc : TypeId × Value → H} {W : World} {base : Nat} {sp : Nat → Bool} {held : Bool} {fuel : Nat} {a0 : Option Addr} {len cap : Nat} {d : DataW H} {p : List MemPlace}
    (h : DataW.trod enc Try.prog W base sp held fuel 22 [.slice a0 len cap] = some (d, p)) (hlt : ∀ y ∈ p, y.block < W.heap.size) : ∃ l : List Tk, TkArg W (.slice a0 len cap) l ∧ weigh l ≤ Rows.uptoBulk d ∧ ∀ t ∈ l, (Lit.int .i64 t.line).wf = true := by
  rcases Deep.open_slice Try.underlying22 h with ⟨hcs, hx⟩ | ⟨a, len', cap', m, n, D, Pl, hcs, _, hl, _, hm, hx, hi⟩
  · injection hcs with hcs _
    injection hcs with h1 h2 h3
    subst h1 h2 h3
    exact ⟨[], .inl ⟨rfl, _, _, rfl⟩, Nat.zero_le _, fun t ht => by cases ht⟩
  · injection hcs with hcs _
    injection hcs with h1 h2 h3
    subst h1 h2 h3
    rw [cellsTok] at hi
    have hlm : len ≤ m := by rw [hm]; split <;> omega
    obtain ⟨l, hll, hp⟩ := list_of (n := len) (P := fun i (t : Tk) => D i = tkD t ∧ (∀ k, k < 4 → W.cell? (a.add (i * 4 + k)) = (tkC t)[k]?) ∧ (Lit.int .i64 t.line).wf = true) (by
      intro i hil
      obtain ⟨cs', hc, ht⟩ := hi i (by omega)
      obtain ⟨t, e1, e2, e3⟩ := read_tok ht
      obtain ⟨_, _, hat⟩ := World.cells?_some hc
      refine ⟨t, e2, fun k hk => ?_, e3⟩
      rw [← Deep.add_add, hat k hk, e1])
    refine ⟨l, ?_, ?_, fun t ht => ?_⟩
    · by_cases hl0 : len = 0
      · subst hl0
        obtain rfl : l = [] := List.eq_nil_of_length_eq_zero hll
        exact .inl ⟨rfl, _, _, rfl⟩
      · obtain ⟨t0, ht0⟩ : ∃ t, l[0]? = some t := ⟨_, List.getElem?_eq_getElem (by omega)⟩
        have hc0 := (hp 0 t0 ht0).2.1 0 (by omega)
        obtain ⟨b, off, spot⟩ := a
        have hspot : spot = none := by
          have : W.cell? ((⟨b, off, spot⟩ : Addr).add 0) = some (.int .i64 t0.kind) := by simpa [tkC] using hc0
          simpa [Addr.add] using World.cell?_spot this
        subst hspot
        have hbW : b < W.heap.size := by
          simp only [Prod.mk.injEq] at hx
          refine hlt (.cell b off) ?_
          rw [hx.2]
          exact List.mem_append_left _ (MemPlace.mem_row.2 ⟨0, by rw [cellsTok]; omega, by simp⟩)
        refine .inr ⟨b, off, cap, by rw [hll], hbW, fun i t ht k hk => ?_⟩
        have := (hp i t ht).2.1 k hk
        rw [← this]
        have e : (⟨b, off, none⟩ : Addr).add (i * 4 + k) = ⟨b, off + i * 4 + k, none⟩ := by
          rw [show off + i * 4 + k = off + (i * 4 + k) by omega]
          unfold Addr.add
          split <;> simp_all
        rw [e]
    · simp only [Prod.mk.injEq] at hx
      rw [hx.1]
      have e : (List.range len).map D = l.map tkD := by
        apply List.ext_getElem?
        intro i
        by_cases hil : i < len
        · obtain ⟨t, ht⟩ : ∃ t, l[i]? = some t := ⟨_, List.getElem?_eq_getElem (by omega)⟩
          rw [List.getElem?_map, List.getElem?_map, ht, List.getElem?_range hil]
          show some (D i) = some (tkD t)
          rw [(hp i t ht).1]
        · rw [List.getElem?_eq_none (by simp; omega), List.getElem?_eq_none (by simp; omega)]
      simp only [Rows.uptoBulk]
      have := bulk_toks (H := H) l _ e
      omega
    · obtain ⟨i, hi'⟩ := List.mem_iff_getElem?.1 ht
      exact (hp i t hi').2.2


/-! ### Rows of the call's own -/

def Own (w : World) (B : Nat) (v : Value) (l : List Tk) : Prop := w.ownsRow B 47 4 v l.length (l.flatMap tkC)
theorem Own.nil (w : World) (B : Nat) : Own w B (.slice none 0 0) [] := World.ownsRow_nil _ _ _ _
theorem Own.arg {w : World} {B : Nat} {v : Value} {l : List Tk} (h : Own w B v l) : TkArg w v l := own_arg h
theorem Own.below {w w' : World} {B C : Nat} {v : Value} {l : List Tk} (h : Own w B v l) (hb : Below C w w') (hC : w.heap.size ≤ C) : Own w' B v l := by
  have hg : w.grownBy w' none := ⟨hb.os, hb.tape, hb.output, hb.size, fun k hk _ => hb.block k (by omega)⟩
  rcases hv : v.ownBlock with _ | g
  · exact World.ownsRow.kept h hg (.inl hv)
  · exact World.ownsRow.kept h hg (.inr (by rw [hv]; simp))
/-- append of one token: the same block, or a new one. -/
theorem append_one (w : World) {ops : Array Oper} {rest : List Oper} {o : Oper} {a : Act} {Q : Exit → Act → World → Prop} (hg : o.guard = none) (sl x : Operand) (hop : o.op = Op.call { callee := Callee.builtin Builtin.append, args := #[sl, x], argTypes := #[22, 22] })
    (base : Nat) (v : Value) (l : List Tk) (hs : a.eval sl = v) (hown : Own w base v l) (ad : Addr) (t : Tk) (c : Nat) (hx : a.eval x = .slice (some ad) 1 c) (hc : ∀ (j : Nat) u, (tkC t)[j]? = some u → w.cell? (ad.add j) = some u) (b1 : l.length + 1 ≤ 3518437208880) (hB : base ≤ w.heap.size)
    (hK : ∀ v' w', Own w' base v' (l ++ [t]) → w.grownBy w' v.ownBlock → (v'.ownBlock = v.ownBlock ∨ v'.ownBlock = some w.heap.size) → wpList Try.prog ops Q rest (a.put o.dst v') w') :
    wpList Try.prog ops Q (o :: rest) a w := by
  obtain ⟨i0, hi, hz0, hz1, hz2⟩ := info_parts infoTok
  refine wpList_append_own_at w hg sl x 22 hop base 47 i0 _ 4 40 Try.underlying22 hi hz0 hz1 hz2 rfl (by decide) v l.length (l.flatMap tkC) hs hown ad 1 c (tkC t) hx rfl hc ?_ (by unfold maxLen; omega) (by omega) hB ?_
  · intro u hu
    simp only [tkC, List.mem_cons, List.not_mem_nil, or_false] at hu
    rcases hu with rfl | rfl | rfl | rfl <;> rfl
  · intro v' w' h1 h2 _ h4
    refine hK v' w' ?_ h2 h4
    unfold Own
    rw [List.length_append, List.flatMap_append]
    simpa using h1
theorem new_cell (w : World) (cs : Array Value) (t : TypeId) (k : Nat) : (w.alloc (.cells cs t)).cell? ⟨w.heap.size, k, none⟩ = cs[k]? := by
  rw [cell_of_row _ _ _ _ _ _ (heap_alloc_new w (.cells cs t))]
set_option maxRecDepth 100000 in
set_option maxHeartbeats 2000000 in
/-- The document's own SameAll at two slices that hold the same. -/
theorem sameall_any (va vb : Value) (l : List Tk) (w : World) (ha : TkArg w va l) (hb : TkArg w vb l) (hm : l.length ≤ 3518437208880) :
    Calls Try.prog 22 #[va, vb] w fun e w' => e = .returned (.bool true) ∧ Below w.heap.size w w' := by
  have HM := Lib.hid hm
  clear hm
  by_cases hL : l.length = 0
  · obtain ⟨a1, c1, rfl⟩ := ha.len
    obtain ⟨a2, c2, rfl⟩ := hb.len
    rw [hL]
    clear ha hb HM hL
    go_enter Try.func22, Try.ntmps22
    go_wp2_with fail
    go_loopw [5] (fun i wr => i = .int .i64 0 ∧ wr = w) (fun _ _ => 0)
    case atStart => exact ⟨rfl, rfl⟩
    case round =>
      obtain ⟨rfl, rfl⟩ := hrel
      go_wp2_with fail
      go_ret
      exact ⟨rfl, Below.refl _ _⟩
  · obtain ⟨ga, oa, ca, rfl, ha1, ha2⟩ := ha.cells hL
    obtain ⟨gb, ob, cb, rfl, hb1, hb2⟩ := hb.cells hL
    have HA : Hid (TkIn w ga oa l) := ⟨ha1, ha2⟩
    have HB : Hid (TkIn w gb ob l) := ⟨hb1, hb2⟩
    clear ha hb ha1 ha2 hb1 hb2
    go_enter Try.func22, Try.ntmps22
    go_wp2_with fail
    go_loopw [5] (fun i wr => ∃ (k n : Nat), i = .int .i64 (k : Int) ∧ wr = w.drewN n ∧ k ≤ l.length) (fun i _ => l.length - (intOf i).toNat)
    case atStart => exact ⟨0, 0, rfl, rfl, by omega⟩
    case round =>
      obtain ⟨k, n, rfl, rfl, hk⟩ := hrel
      by_cases hp : k < l.length
      · obtain ⟨t, ht⟩ : ∃ t, l[k]? = some t := ⟨_, List.getElem?_eq_getElem hp⟩
        obtain ⟨a0, a1, a2, a3⟩ := HA.out.four k t ht
        obtain ⟨b0, b1, b2, b3⟩ := HB.out.four k t ht
        have hw := idx_at k l.length hp HM.out
        have HW := Lib.hid hw
        clear ht hw
        have i0 : (0 : Int) ≤ (k : Int) := by omega
        have i1 : (k : Int) < (l.length : Int) := by omega
        go_wp2_with fail
        go_quiet (fail)
        go_wp2_with fail
        go_roundw
        case rel =>
          rw [HW.out]
          exact ⟨k + 1, _, by go_num, rfl, by omega⟩
        case measure =>
          rw [HW.out]
          simp [intOf]
          omega
      · go_wp2_with fail
        go_ret
        exact ⟨rfl, below_drewN (Below.refl _ _) n⟩
end Go.Proofs.Ytmgclgojmckfhaa.Tks
/-
  Marks among tokens: what a row of tokens becomes with marks, and without; that without their marks they are what they were, that no two marks stand side by side, each Begin first or behind a token that opens. No program is run here.
-/
namespace Go.Proofs.Ytmgclgojmckfhaa.Mrk
open Tks Go.RowKit
set_option linter.unusedSimpArgs false
set_option linter.unusedVariables false

def empty : ByteArray := ⟨#[]⟩
def tx (t : Tk) : List UInt8 := t.text.data.toList
/-- Does a block begin behind a token? -/
def opensT (t : Tk) : Bool := t.kind == 9 && (tx t == [108, 101, 116] || tx t == [119, 104, 101, 114, 101] || tx t == [100, 111] || tx t == [111, 102])
def braceT (t : Tk) : Bool := t.kind == 15 && tx t == [123]
def moduleT (t : Tk) : Bool := t.kind == 9 && tx t == [109, 111, 100, 117, 108, 101]
def isMark (t : Tk) : Bool := t.kind == 16 || t.kind == 17
def beginM (t : Tk) : Tk := ⟨16, empty, t.line, t.col⟩
def lineM (t : Tk) : Tk := ⟨17, empty, t.line, t.col⟩
def lastM : Tk := ⟨16, empty, 0, 0⟩
section
-- how many newlines a text has
variable (nl : ByteArray → Int)
/-- Does a token begin its line, behind another one? -/
def freshT (a b : Tk) : Bool := b.line != a.line && wrap64 (b.line - a.line) != nl a.text
/-- The mark ahead of a token: none, or one. -/
def ahead (first opens : Bool) (prev t : Tk) : List Tk :=
  if (opens && (!braceT t && (!first || !moduleT t))) = true then [beginM t] else if (first || freshT nl prev t) = true then [lineM t] else []
/-- The rest of a row with its marks. -/
def markF (first opens : Bool) (prev : Tk) : List Tk → List Tk
  | [] => if opens = true then [lastM] else []
  | t :: r => ahead nl first opens prev t ++ t :: markF false (opensT t) t r
def markL (l : List Tk) : List Tk := markF nl true true lastM l
def bareL (l : List Tk) : List Tk := l.filter fun t => !isMark t
theorem ahead_cases (first opens : Bool) (prev t : Tk) : ahead nl first opens prev t = [] ∨ (ahead nl first opens prev t = [beginM t] ∧ opens = true) ∨ ahead nl first opens prev t = [lineM t] := by
  unfold ahead
  split
  · rename_i h
    rw [Bool.and_eq_true] at h
    exact .inr (.inl ⟨rfl, h.1⟩)
  · split
    · exact .inr (.inr rfl)
    · exact .inl rfl
theorem ahead_bare (first opens : Bool) (prev t : Tk) : (ahead nl first opens prev t).filter (fun t => !isMark t) = [] := by
  rcases ahead_cases nl first opens prev t with h | ⟨h, -⟩ | h
  · rw [h]
    rfl
  · rw [h]
    rfl
  · rw [h]
    rfl
theorem markF_bare (l : List Tk) (h : ∀ t ∈ l, isMark t = false) : ∀ first opens prev, bareL (markF nl first opens prev l) = l := by
  induction l with
  | nil =>
    intro first opens prev
    unfold markF
    split
    · rfl
    · rfl
  | cons t r ih =>
    intro first opens prev
    unfold markF
    unfold bareL at ih ⊢
    rw [List.filter_append, ahead_bare, List.nil_append, List.filter_cons_of_pos (by rw [h t (List.mem_cons_self ..)]; rfl), ih (fun u hu => h u (List.mem_cons_of_mem _ hu))]
/-- H4: without their marks tokens are what they were. -/
theorem bare_mark (l : List Tk) (h : ∀ t ∈ l, isMark t = false) : bareL (markL nl l) = l := markF_bare nl l h _ _ _

/-- What is asked of a row with marks, from a place on: what stands ahead of it, if anything does. -/
def Once : Option Tk → List Tk → Prop
  | _, [] => True
  | p, t :: r => (isMark t = true → tx t = [] ∧ (t.kind = 16 → ∀ u, p = some u → opensT u = true) ∧ ∀ v s, r = v :: s → isMark v = false ∧ v.line = t.line ∧ v.col = t.col) ∧ Once (some t) r
theorem once_tok {p : Option Tk} {t : Tk} {r : List Tk} (ht : isMark t = false) (h : Once (some t) r) : Once p (t :: r) := ⟨fun e => (by rw [ht] at e; cases e), h⟩
theorem markF_once (l : List Tk) (h : ∀ t ∈ l, isMark t = false) : ∀ first opens prev (p : Option Tk), (∀ u, p = some u → opens = opensT u) → Once p (markF nl first opens prev l) := by
  induction l with
  | nil =>
    intro first opens prev p hp
    unfold markF
    split
    · rename_i ho
      refine ⟨fun _ => ⟨rfl, fun _ u hu => by rw [← hp u hu]; exact ho, fun v s e => by cases e⟩, trivial⟩
    · trivial
  | cons t r ih =>
    intro first opens prev p hp
    have ht := h t (List.mem_cons_self ..)
    have hr : ∀ q, Once q (t :: markF nl false (opensT t) t r) := fun q => once_tok ht (ih (fun u hu => h u (List.mem_cons_of_mem _ hu)) _ _ _ _ (fun u hu => by injection hu with hu; rw [hu]))
    unfold markF
    rcases ahead_cases nl first opens prev t with e | ⟨e, ho⟩ | e
    · rw [e]
      exact hr p
    · rw [e]
      refine ⟨fun _ => ⟨rfl, fun _ u hu => by rw [← hp u hu]; exact ho, fun v s q => ?_⟩, hr _⟩
      injection q with q _
      subst q
      exact ⟨ht, rfl, rfl⟩
    · rw [e]
      refine ⟨fun _ => ⟨rfl, fun k => absurd (show (17 : Int) = 16 from k) (by decide), fun v s q => ?_⟩, hr _⟩
      injection q with q _
      subst q
      exact ⟨ht, rfl, rfl⟩
theorem mark_once (l : List Tk) (h : ∀ t ∈ l, isMark t = false) : Once none (markL nl l) := markF_once nl l h _ _ _ _ (fun u hu => by cases hu)
/-- The same, place by place. -/
theorem once_at : ∀ {l : List Tk} {p : Option Tk}, Once p l → ∀ (i : Nat) (t : Tk), l[i]? = some t → isMark t = true →
    tx t = [] ∧ (t.kind = 16 → ∀ u, (if i = 0 then p else l[i - 1]?) = some u → opensT u = true) ∧ ∀ v, l[i + 1]? = some v → isMark v = false ∧ v.line = t.line ∧ v.col = t.col
  | [], p, h, i, t, ht, _ => by simp at ht
  | a :: r, p, h, 0, t, ht, hm => by
    simp at ht
    subst ht
    obtain ⟨h1, h2, h3⟩ := h.1 hm
    refine ⟨h1, fun k u hu => h2 k u (by simpa using hu), fun v hv => ?_⟩
    cases r with
    | nil => simp at hv
    | cons b s =>
      simp at hv
      subst hv
      exact h3 _ _ rfl
  | a :: r, p, h, i + 1, t, ht, hm => by
    obtain ⟨h1, h2, h3⟩ := once_at h.2 i t (by simpa using ht) hm
    refine ⟨h1, fun k u hu => ?_, fun v hv => h3 v (by simpa using hv)⟩
    rw [if_neg (by omega), Nat.add_sub_cancel] at hu
    by_cases hi : i = 0
    · subst hi
      exact h2 k u (by simpa using hu)
    · refine h2 k u ?_
      rw [if_neg hi]
      obtain ⟨j, rfl⟩ : ∃ j, i = j + 1 := ⟨i - 1, by omega⟩
      simpa using hu
theorem mark_len (l : List Tk) : 0 < (markL nl l).length ∧ (markL nl l).length ≤ 2 * l.length + 1 := by
  have key : ∀ (l : List Tk) first opens prev, (markF nl first opens prev l).length ≤ 2 * l.length + 1 := by
    intro l
    induction l with
    | nil =>
      intro first opens prev
      unfold markF
      split
      · exact Nat.le_refl _
      · exact Nat.zero_le _
    | cons t r ih =>
      intro first opens prev
      unfold markF
      have h1 := ih false (opensT t) t
      have h2 : (ahead nl first opens prev t).length ≤ 1 := by
        rcases ahead_cases nl first opens prev t with e | ⟨e, -⟩ | e
        all_goals (rw [e]; simp)
      rw [List.length_append, List.length_cons, List.length_cons]
      omega
  refine ⟨?_, key l _ _ _⟩
  unfold markL
  cases l with
  | nil => exact Nat.lt_succ_self 0
  | cons t r =>
    unfold markF
    rw [List.length_append, List.length_cons]
    omega
/-- Tokens of one line, of which none opens a block, nor is a brace or 'module': one mark. -/
theorem mark_none (t : Tk) (r : List Tk) (h : ∀ u ∈ t :: r, u.kind = 1 ∧ u.line = t.line) : markL nl (t :: r) = beginM t :: t :: r := by
  have hop : ∀ u, u.kind = 1 → opensT u = false := fun u hu => by
    unfold opensT
    rw [hu]
    rfl
  have hrest : ∀ (r : List Tk) (p : Tk), (∀ u ∈ p :: r, u.kind = 1 ∧ u.line = t.line) → markF nl false (opensT p) p r = r := by
    intro r
    induction r with
    | nil =>
      intro p hp
      unfold markF
      rw [hop p (hp p (List.mem_cons_self ..)).1]
      rfl
    | cons u r ih =>
      intro p hp
      have h1 := hp p (List.mem_cons_self ..)
      have h2 := hp u (List.mem_cons_of_mem _ (List.mem_cons_self ..))
      unfold markF
      rw [ih u (fun v hv => hp v (List.mem_cons_of_mem _ hv)), hop p h1.1]
      unfold ahead freshT
      rw [h1.2, h2.2, bne_self_eq_false]
      rfl
  unfold markL markF
  rw [hrest r t h]
  have hk := (h t (List.mem_cons_self ..)).1
  unfold ahead braceT moduleT
  rw [hk]
  rfl
theorem mark_nil : markL nl [] = [lastM] := rfl
end
end Go.Proofs.Ytmgclgojmckfhaa.Mrk
/-
  The document's own Opens, brace, fresh, Mark and Bare at any tokens. Conditions: at most 2^40 tokens; what the document's Lines answers is told by a hypothesis.
-/
namespace Go.Proofs.Ytmgclgojmckfhaa.Mrk
open Tks Go.RowKit
set_option linter.unusedSimpArgs false
set_option linter.unusedVariables false

/-- Two blocks made, and draws. -/
theorem below_two (w : World) (o1 o2 : Obj) : Below w.heap.size w ((w.alloc o1).alloc o2) := by
  have h1 : Below w.heap.size w (w.alloc o1) := (Below.refl _ _).alloc (Nat.le_refl _) o1
  exact h1.alloc h1.size o2
def tkO (t : Tk) : Obj := .cells #[.int .i64 t.kind, .string t.text, .int .i64 t.line, .int .i64 t.col] 47
theorem two_at {w w1 : World} {t u : Tk} (hb : Below ((w.alloc (tkO t)).alloc (tkO u)).heap.size ((w.alloc (tkO t)).alloc (tkO u)) w1) :
    w1.cell? ⟨w.heap.size, 1, none⟩ = some (.string t.text) ∧ w1.cell? ⟨w.heap.size, 2, none⟩ = some (.int .i64 t.line) ∧ w1.cell? ⟨w.heap.size + 1, 2, none⟩ = some (.int .i64 u.line) := by
  have s1 : (w.alloc (tkO t)).heap.size = w.heap.size + 1 := Array.size_push _
  have s2 : ((w.alloc (tkO t)).alloc (tkO u)).heap.size = w.heap.size + 2 := (Array.size_push _).trans (by rw [s1])
  have h1 : Below (w.alloc (tkO t)).heap.size (w.alloc (tkO t)) ((w.alloc (tkO t)).alloc (tkO u)) := (Below.refl _ _).alloc (Nat.le_refl _) _
  have k (j : Nat) : w1.cell? ⟨w.heap.size, j, none⟩ = (w.alloc (tkO t)).cell? ⟨w.heap.size, j, none⟩ :=
    (World.cell?_of_block (hb.block _ (by dsimp only; omega))).trans (World.cell?_of_block (h1.block _ (by dsimp only; omega)))
  have m (j : Nat) : w1.cell? ⟨w.heap.size + 1, j, none⟩ = ((w.alloc (tkO t)).alloc (tkO u)).cell? ⟨w.heap.size + 1, j, none⟩ :=
    World.cell?_of_block (hb.block _ (by dsimp only; omega))
  refine ⟨(k 1).trans ((new_cell _ _ _ _).trans rfl), (k 2).trans ((new_cell _ _ _ _).trans rfl), (m 2).trans ?_⟩
  have := new_cell (w.alloc (tkO t)) #[.int .i64 u.kind, .string u.text, .int .i64 u.line, .int .i64 u.col] 47 2
  rw [s1] at this
  exact this.trans rfl
theorem bareL_append (a b : List Tk) : bareL (a ++ b) = bareL a ++ bareL b := List.filter_append ..
theorem bareL_len (a : List Tk) : (bareL a).length ≤ a.length := List.length_filter_le ..
theorem take_next (l : List Tk) (k : Nat) (t : Tk) (h : l[k]? = some t) : l.take (k + 1) = l.take k ++ [t] := by
  rw [List.take_add_one, h]
  rfl
theorem bare_yes (l : List Tk) (k : Nat) (t : Tk) (h : l[k]? = some t) (hm : isMark t = false) : bareL (l.take (k + 1)) = bareL (l.take k) ++ [t] := by
  rw [take_next l k t h, bareL_append]
  unfold bareL
  rw [List.filter_cons, hm]
  rfl
theorem bare_no (l : List Tk) (k : Nat) (t : Tk) (h : l[k]? = some t) (hm : isMark t = true) : bareL (l.take (k + 1)) = bareL (l.take k) := by
  rw [take_next l k t h, bareL_append]
  unfold bareL
  rw [List.filter_cons, hm]
  exact List.append_nil _
theorem mark_cases (t : Tk) : (t.kind = 16 ∧ isMark t = true) ∨ (t.kind = 17 ∧ isMark t = true) ∨ (t.kind ≠ 16 ∧ t.kind ≠ 17 ∧ isMark t = false) := by
  unfold isMark
  by_cases h : t.kind = 16
  · exact .inl ⟨h, by rw [h]; rfl⟩
  · by_cases q : t.kind = 17
    · exact .inr (.inl ⟨q, by rw [q]; rfl⟩)
    · exact .inr (.inr ⟨h, q, by rw [beq_eq_false_iff_ne.2 h, beq_eq_false_iff_ne.2 q]; rfl⟩)
/-- append of one token that was just laid: the row is the call's own, and all that lay there ahead of the call lies there. -/
theorem push_one (w wr : World) {ops : Array Oper} {rest : List Oper} {o : Oper} {a : Act} {Q : Exit → Act → World → Prop} (hg : o.guard = none) (sl x : Operand) (hop : o.op = Op.call { callee := Callee.builtin Builtin.append, args := #[sl, x], argTypes := #[22, 22] })
    (v : Value) (l : List Tk) (hs : a.eval sl = v) (hown : Own wr w.heap.size v l) (hbel : Below w.heap.size w wr) (t : Tk) (ty : TypeId) (c : Nat) (hx : a.eval x = .slice (some ⟨wr.heap.size, 0, none⟩) 1 c) (b1 : l.length + 1 ≤ 3518437208880)
    (hK : ∀ v' W2, Own W2 w.heap.size v' (l ++ [t]) → Below w.heap.size w W2 → wpList Try.prog ops Q rest (a.put o.dst v') W2) :
    wpList Try.prog ops Q (o :: rest) a (wr.alloc (.cells #[.int .i64 t.kind, .string t.text, .int .i64 t.line, .int .i64 t.col] ty)) := by
  have h0 : Below wr.heap.size wr (wr.alloc (.cells #[.int .i64 t.kind, .string t.text, .int .i64 t.line, .int .i64 t.col] ty)) := (Below.refl _ _).alloc (Nat.le_refl _) _
  have h1 : Own (wr.alloc (.cells #[.int .i64 t.kind, .string t.text, .int .i64 t.line, .int .i64 t.col] ty)) w.heap.size v l := hown.below h0 (Nat.le_refl _)
  have h2 : Below w.heap.size w (wr.alloc (.cells #[.int .i64 t.kind, .string t.text, .int .i64 t.line, .int .i64 t.col] ty)) := hbel.trans (h0.mono hbel.size)
  refine append_one _ hg sl x hop w.heap.size v l hs h1 ⟨wr.heap.size, 0, none⟩ t c hx (fun j u hj => ?_) b1 h2.size ?_
  · rw [add_plain, new_cell]
    simpa [tkC] using hj
  · intro v' W2 o2 g2 _
    exact hK v' W2 o2 (Below.grown h2 g2 h2.size (fun k hk => (World.ownsRow.lt h1 k hk).1))
/-- Behind an append: what lay there lies there still, and the row is the call's own. -/
theorem grown_below {w W1 W2 : World} {v : Value} {l : List Tk} (ho : Own W1 w.heap.size v l) (h : Below w.heap.size w W1) (hg : W1.grownBy W2 v.ownBlock) : Below w.heap.size w W2 :=
  Below.grown h hg h.size (fun k hk => (World.ownsRow.lt ho k hk).1)
end Go.Proofs.Ytmgclgojmckfhaa.Mrk
/-
  The layout algorithm over a row of marked tokens: what comes next, and what is open behind it; that from a state that may be only such states come; that all comes to an end. No program is run here.
-/
namespace Go.Proofs.Ytmgclgojmckfhaa.Lay
open Tks Mrk Go.RowKit
set_option linter.unusedSimpArgs false
set_option linter.unusedVariables false

def zeroT : Tk := ⟨0, empty, 0, 0⟩
def atT (k : Int) (t : Tk) : Tk := ⟨k, empty, t.line, t.col⟩
def endT (k : Int) : Tk := ⟨k, empty, 0, 0⟩
def isOpen (t : Tk) : Bool := t.kind == 15 && tx t == [123]
def isShut (t : Tk) : Bool := t.kind == 15 && tx t == [125]
/-- The innermost block's column; 0: none, or one with braces. -/
def topL (o : List Int) : Int := o.getLast?.getD 0
/-- What comes next: the token, how far, what is open, what is waited for, the error. -/
structure Nx where
  tok : Tk
  at_ : Nat
  opn : List Int
  wait : Int
  err : Int
def nextR : List Tk → Nat → List Int → Int → Nx
  | [], i, o, w => if o = [] then ⟨endT 21, i, o, w, 0⟩ else if 0 < topL o then ⟨endT 20, i, o.dropLast, w, 0⟩ else ⟨zeroT, i, o, w, 90⟩
  | t :: r, i, o, w =>
    if t.kind = 16 ∧ w = 0 then (if topL o < t.col then ⟨atT 18 t, i + 1, o ++ [t.col], w, 0⟩ else ⟨atT 18 t, i, o, 1, 0⟩)
    else if t.kind = 16 ∧ w = 1 then ⟨atT 20 t, i, o, 2, 0⟩
    else if t.kind = 16 ∨ t.kind = 17 then
      (if 0 < topL o ∧ t.col < topL o then ⟨atT 20 t, i, o.dropLast, w, 0⟩
       else if 0 < topL o ∧ t.col = topL o then ⟨atT 19 t, i + 1, o, 0, 0⟩
       else nextR r (i + 1) o 0)
    else if isShut t = true then (if o = [] ∨ 0 < topL o then ⟨zeroT, i, o, w, 90⟩ else ⟨t, i + 1, o.dropLast, w, 0⟩)
    else if isOpen t = true then ⟨t, i + 1, o ++ [0], w, 0⟩
    else ⟨t, i + 1, o, w, 0⟩
def nextL (l : List Tk) (i : Nat) (o : List Int) (w : Int) : Nx := nextR (l.drop i) i o w

/-- A state that may be. -/
structure Ok (l : List Tk) (i : Nat) (o : List Int) (w : Int) : Prop where
  at_ : i ≤ l.length
  opn : ∀ c ∈ o, 0 ≤ c
  wlo : 0 ≤ w
  whi : w ≤ 2
  wat : 0 < w → ∃ t, l[i]? = some t ∧ t.kind = 16
theorem dropLast_mem {o : List Int} {c : Int} (h : c ∈ o.dropLast) : c ∈ o := List.dropLast_subset o h
theorem topL_push (o : List Int) (c : Int) : topL (o ++ [c]) = c := by simp [topL]
theorem topL_nonneg {o : List Int} (h : ∀ c ∈ o, 0 ≤ c) : 0 ≤ topL o := by
  unfold topL
  cases e : o.getLast? with
  | none => exact Int.le_refl _
  | some c => exact h c (List.mem_of_getLast? e)
theorem top_ne {o : List Int} (h : 0 < topL o) : o ≠ [] := by
  intro e
  subst e
  simp [topL] at h
/-- One step: from a state that may be. -/
theorem nextR_ok (l : List Tk) : ∀ (r : List Tk) (i : Nat) (o : List Int) (w : Int), r = l.drop i → Ok l i o w → Ok l (nextR r i o w).at_ (nextR r i o w).opn (nextR r i o w).wait ∧ ((nextR r i o w).err = 0 ∨ (nextR r i o w).err = 90) := by
  intro r
  induction r with
  | nil =>
    intro i o w hr h
    unfold nextR
    split
    · exact ⟨h, .inl rfl⟩
    · split
      · exact ⟨⟨h.at_, fun c hc => h.opn c (dropLast_mem hc), h.wlo, h.whi, h.wat⟩, .inl rfl⟩
      · exact ⟨h, .inr rfl⟩
  | cons t r ih =>
    intro i o w hr h
    have hi : i < l.length := by
      rcases Nat.lt_or_ge i l.length with q | q
      · exact q
      · rw [List.drop_eq_nil_of_le q] at hr
        cases hr
    have hd : l.drop i = l[i] :: l.drop (i + 1) := List.drop_eq_getElem_cons hi
    rw [hd] at hr
    injection hr with ht hr
    have hti : l[i]? = some t := by rw [List.getElem?_eq_getElem hi, ht]
    have nw : ∀ j : Nat, 0 < (0 : Int) → ∃ t : Tk, l[j]? = some t ∧ t.kind = 16 := fun j q => absurd q (by decide)
    have hw0 : ¬ t.kind = 16 → w = 0 := by
      intro hk
      rcases Int.lt_or_le 0 w with q | q
      · obtain ⟨u, hu, hk2⟩ := h.wat q
        rw [hti] at hu
        cases hu
        exact absurd hk2 hk
      · have := h.wlo
        omega
    unfold nextR
    split
    · rename_i h1
      split
      · rename_i h2
        refine ⟨⟨by dsimp only; omega, fun c hc => ?_, h.wlo, h.whi, fun q => ?_⟩, .inl rfl⟩
        · dsimp only at hc
          rcases List.mem_append.1 hc with hc | hc
          · exact h.opn c hc
          · have := topL_nonneg h.opn
            simp at hc
            omega
        · dsimp only at q
          omega
      · exact ⟨⟨h.at_, h.opn, by (try dsimp only); omega, by (try dsimp only); omega, fun _ => ⟨t, hti, h1.1⟩⟩, .inl rfl⟩
    · split
      · rename_i h1
        exact ⟨⟨h.at_, h.opn, by (try dsimp only); omega, by (try dsimp only); omega, fun _ => ⟨t, hti, h1.1⟩⟩, .inl rfl⟩
      · split
        · split
          · exact ⟨⟨h.at_, fun c hc => h.opn c (dropLast_mem hc), h.wlo, h.whi, h.wat⟩, .inl rfl⟩
          · split
            · exact ⟨⟨by dsimp only; omega, h.opn, by (try dsimp only); omega, by (try dsimp only); omega, nw _⟩, .inl rfl⟩
            · exact ih (i + 1) o 0 hr ⟨by omega, h.opn, by (try dsimp only); omega, by (try dsimp only); omega, nw _⟩
        · rename_i h1 h2 h3
          have hwz : w = 0 := hw0 (fun e => h3 (.inl e))
          subst hwz
          split
          · split
            · exact ⟨h, .inr rfl⟩
            · exact ⟨⟨by dsimp only; omega, fun c hc => h.opn c (dropLast_mem hc), by (try dsimp only); omega, by (try dsimp only); omega, nw _⟩, .inl rfl⟩
          · split
            · refine ⟨⟨by dsimp only; omega, fun c hc => ?_, by (try dsimp only); omega, by (try dsimp only); omega, nw _⟩, .inl rfl⟩
              dsimp only at hc
              rcases List.mem_append.1 hc with hc | hc
              · exact h.opn c hc
              · simp at hc
                omega
            · exact ⟨⟨by dsimp only; omega, h.opn, by (try dsimp only); omega, by (try dsimp only); omega, nw _⟩, .inl rfl⟩
theorem next_ok {l : List Tk} {i : Nat} {o : List Int} {w : Int} (h : Ok l i o w) : Ok l (nextL l i o w).at_ (nextL l i o w).opn (nextL l i o w).wait ∧ ((nextL l i o w).err = 0 ∨ (nextL l i o w).err = 90) := nextR_ok l _ i o w rfl h
/-- How many steps are left at most. -/
def left (l : List Tk) (i : Nat) (o : List Int) (w : Int) : Nat := 5 * (l.length - i) + o.length + (2 - w).toNat
theorem nextR_less (l : List Tk) : ∀ (r : List Tk) (i : Nat) (o : List Int) (w : Int), r = l.drop i → Ok l i o w → (nextR r i o w).err = 0 → (nextR r i o w).tok.kind ≠ 21 → left l (nextR r i o w).at_ (nextR r i o w).opn (nextR r i o w).wait < left l i o w := by
  intro r
  induction r with
  | nil =>
    intro i o w hr h
    unfold nextR
    split
    · intro _ q
      exact absurd rfl q
    · split
      · rename_i ho _
        intro _ _
        have : 0 < o.length := List.length_pos_iff.2 ho
        unfold left
        rw [List.length_dropLast]
        dsimp only
        omega
      · intro q
        cases q
  | cons t r ih =>
    intro i o w hr h
    have hi : i < l.length := by
      rcases Nat.lt_or_ge i l.length with q | q
      · exact q
      · rw [List.drop_eq_nil_of_le q] at hr
        cases hr
    have hd : l.drop i = l[i] :: l.drop (i + 1) := List.drop_eq_getElem_cons hi
    rw [hd] at hr
    injection hr with ht hr
    have hlo := h.wlo
    have hhi := h.whi
    unfold nextR
    split
    · split
      · intro _ _
        unfold left
        rw [List.length_append, List.length_singleton]
        dsimp only
        omega
      · intro _ _
        unfold left
        dsimp only
        omega
    · split
      · intro _ _
        unfold left
        dsimp only
        omega
      · split
        · split
          · rename_i ho
            intro _ _
            have : 0 < o.length := List.length_pos_iff.2 (top_ne ho.1)
            unfold left
            rw [List.length_dropLast]
            dsimp only
            omega
          · split
            · intro _ _
              unfold left
              dsimp only
              omega
            · intro e k
              have nw : 0 < (0 : Int) → ∃ t : Tk, l[i + 1]? = some t ∧ t.kind = 16 := fun q => absurd q (by decide)
              have := ih (i + 1) o 0 hr ⟨by omega, h.opn, by decide, by decide, nw⟩ e k
              unfold left at this ⊢
              omega
        · split
          · split
            · intro q
              cases q
            · intro _ _
              unfold left
              rw [List.length_dropLast]
              dsimp only
              omega
          · split
            · intro _ _
              unfold left
              rw [List.length_append, List.length_singleton]
              dsimp only
              omega
            · intro _ _
              unfold left
              dsimp only
              omega
theorem next_less {l : List Tk} {i : Nat} {o : List Int} {w : Int} (h : Ok l i o w) (he : (nextL l i o w).err = 0) (hk : (nextL l i o w).tok.kind ≠ 21) :
    left l (nextL l i o w).at_ (nextL l i o w).opn (nextL l i o w).wait < left l i o w := nextR_less l _ i o w rfl h he hk
/-- All that is told, one behind the other. -/
def allF (l : List Tk) : Nat → Nat → List Int → Int → List Tk → List Tk × Int
  | 0, _, _, _, _ => ([], 90)
  | f + 1, i, o, w, out =>
    if (nextL l i o w).err ≠ 0 then ([], (nextL l i o w).err)
    else if (nextL l i o w).tok.kind = 21 then (out, 0)
    else allF l f (nextL l i o w).at_ (nextL l i o w).opn (nextL l i o w).wait (out ++ [(nextL l i o w).tok])
def allL (l : List Tk) : List Tk × Int := allF l (5 * l.length + 3) 0 [] 0 []
theorem ok_start (l : List Tk) : Ok l 0 [] 0 := ⟨Nat.zero_le _, fun c hc => (by cases hc), by decide, by decide, fun q => absurd q (by decide)⟩
theorem left_start (l : List Tk) : left l 0 [] 0 + 1 = 5 * l.length + 3 := by
  unfold left
  simp
end Go.Proofs.Ytmgclgojmckfhaa.Lay
/-
  What comes of a row of tokens, all in all: without what nobody wrote it is the row without its marks; blocks nest. No program is run here.
-/
namespace Go.Proofs.Ytmgclgojmckfhaa.Lay
open Tks Mrk Go.RowKit
set_option linter.unusedSimpArgs false
set_option linter.unusedVariables false

/-- Is it a token that somebody wrote? -/
def keepK (t : Tk) : Bool := t.kind != 18 && t.kind != 19 && t.kind != 20
/-- A row in which nobody laid anything but marks. -/
def Plain (l : List Tk) : Prop := ∀ t ∈ l, t.kind < 18
theorem drop_cons {l r : List Tk} {i : Nat} {t : Tk} (h : t :: r = l.drop i) : l[i]? = some t ∧ r = l.drop (i + 1) ∧ i < l.length := by
  have hi : i < l.length := by
    rcases Nat.lt_or_ge i l.length with q | q
    · exact q
    · rw [List.drop_eq_nil_of_le q] at h
      cases h
  have hd : l.drop i = l[i] :: l.drop (i + 1) := List.drop_eq_getElem_cons hi
  rw [hd] at h
  injection h with h1 h2
  exact ⟨by rw [List.getElem?_eq_getElem hi, h1], h2, hi⟩
theorem wait_zero {l : List Tk} {i : Nat} {o : List Int} {w : Int} {t : Tk} (h : Ok l i o w) (ht : l[i]? = some t) (hk : ¬ t.kind = 16) : w = 0 := by
  rcases Int.lt_or_le 0 w with q | q
  · obtain ⟨u, hu, hk2⟩ := h.wat q
    rw [ht] at hu
    cases hu
    exact absurd hk2 hk
  · have := h.wlo
    omega
theorem wait_end {l : List Tk} {i : Nat} {o : List Int} {w : Int} (h : Ok l i o w) (hi : l.length ≤ i) : w = 0 := by
  rcases Int.lt_or_le 0 w with q | q
  · obtain ⟨u, hu, _⟩ := h.wat q
    have := (List.getElem?_eq_some_iff.1 hu).1
    omega
  · have := h.wlo
    omega
theorem pass_ok {l : List Tk} {i : Nat} {o : List Int} {w : Int} (h : Ok l i o w) (hi : i < l.length) : Ok l (i + 1) o 0 :=
  ⟨by omega, h.opn, by omega, by omega, fun q => absurd q (by decide)⟩
theorem nextR_keeps (l : List Tk) (hp : Plain l) : ∀ (r : List Tk) (i : Nat) (o : List Int) (w : Int), r = l.drop i → Ok l i o w → (nextR r i o w).err = 0 →
    ((nextR r i o w).tok.kind = 21 → bareL l = bareL (l.take i)) ∧ ((nextR r i o w).tok.kind ≠ 21 → bareL (l.take (nextR r i o w).at_) = bareL (l.take i) ++ [(nextR r i o w).tok].filter keepK) := by
  intro r
  induction r with
  | nil =>
    intro i o w hr h
    have hi : l.length ≤ i := List.drop_eq_nil_iff.1 hr.symm
    unfold nextR
    split
    · exact fun _ => ⟨fun _ => by rw [List.take_of_length_le hi], fun q => absurd rfl q⟩
    · split
      · exact fun _ => ⟨fun q => absurd q (by simp [endT]), fun _ => by simp [keepK, endT]⟩
      · intro q
        cases q
  | cons t r ih =>
    intro i o w hr h
    obtain ⟨ht, hr2, hi⟩ := drop_cons hr
    have hk := hp t (List.mem_of_getElem? ht)
    have mk : ∀ t : Tk, t.kind = 16 ∨ t.kind = 17 → isMark t = true := fun t q => by
      unfold isMark
      rcases q with q | q
      · rw [q]; rfl
      · rw [q]; rfl
    unfold nextR
    split
    · rename_i h1
      split
      · exact fun _ => ⟨fun q => absurd q (by simp [atT]), fun _ => by rw [bare_no l i t ht (mk t (.inl h1.1))]; simp [keepK, atT]⟩
      · exact fun _ => ⟨fun q => absurd q (by simp [atT]), fun _ => by simp [keepK, atT]⟩
    · split
      · exact fun _ => ⟨fun q => absurd q (by simp [atT]), fun _ => by simp [keepK, atT]⟩
      · split
        · rename_i h3
          split
          · exact fun _ => ⟨fun q => absurd q (by simp [atT]), fun _ => by simp [keepK, atT]⟩
          · split
            · exact fun _ => ⟨fun q => absurd q (by simp [atT]), fun _ => by rw [bare_no l i t ht (mk t h3)]; simp [keepK, atT]⟩
            · intro e
              have := ih (i + 1) o 0 hr2 (pass_ok h hi) e
              rw [bare_no l i t ht (mk t h3)] at this
              exact this
        · rename_i h3
          have hm : isMark t = false := by
            unfold isMark
            rw [Bool.or_eq_false_iff, beq_eq_false_iff_ne, beq_eq_false_iff_ne]
            exact ⟨fun e => h3 (.inl e), fun e => h3 (.inr e)⟩
          have hkk : keepK t = true := by
            unfold keepK
            simp only [Bool.and_eq_true, bne_iff_ne, ne_eq]
            omega
          have fin : bareL (l.take (i + 1)) = bareL (l.take i) ++ [t].filter keepK := by
            rw [bare_yes l i t ht hm]
            simp [hkk]
          split
          · split
            · intro q
              cases q
            · exact fun _ => ⟨fun q => absurd q (by dsimp only; omega), fun _ => fin⟩
          · split
            · exact fun _ => ⟨fun q => absurd q (by dsimp only; omega), fun _ => fin⟩
            · exact fun _ => ⟨fun q => absurd q (by dsimp only; omega), fun _ => fin⟩
/-- What holds of each step holds in the end. -/
theorem allF_ind (l : List Tk) (P : Nat → List Int → Int → List Tk → Prop) (Q : List Tk → Prop)
    (hs : ∀ i o w out, Ok l i o w → P i o w out → (nextL l i o w).err = 0 → (nextL l i o w).tok.kind ≠ 21 → P (nextL l i o w).at_ (nextL l i o w).opn (nextL l i o w).wait (out ++ [(nextL l i o w).tok]))
    (he : ∀ i o w out, Ok l i o w → P i o w out → (nextL l i o w).err = 0 → (nextL l i o w).tok.kind = 21 → Q out) :
    ∀ f i o w out, Ok l i o w → P i o w out → (allF l f i o w out).2 = 0 → Q (allF l f i o w out).1 := by
  intro f
  induction f with
  | zero =>
    intro i o w out _ _ q
    cases q
  | succ f ih =>
    intro i o w out h p
    unfold allF
    split
    · rename_i q
      exact fun e => absurd e q
    · rename_i q
      have q := Decidable.not_not.1 q
      split
      · rename_i k
        exact fun _ => he i o w out h p q k
      · rename_i k
        exact ih _ _ _ _ (next_ok h).1 (hs i o w out h p q k)
theorem keeps_all (l : List Tk) (hp : Plain l) (he : (allL l).2 = 0) : (allL l).1.filter keepK = bareL l := by
  refine allF_ind l (fun i _ _ out => out.filter keepK = bareL (l.take i)) (fun out => out.filter keepK = bareL l) ?_ ?_ _ _ _ _ _ (ok_start l) rfl he
  · intro i o w out h p e k
    have := (nextR_keeps l hp _ i o w rfl h e).2 k
    rw [List.filter_append, p]
    exact this.symm
  · intro i o w out h p e k
    rw [p]
    exact ((nextR_keeps l hp _ i o w rfl h e).1 k).symm

/-- Which blocks are open: with braces? -/
def nestStep (t : Tk) (st : List Bool) : Option (List Bool) :=
  if (t.kind == 18 || isOpen t) = true then some (st ++ [t.kind == 15])
  else if (t.kind == 20 || isShut t) = true then (if st.getLast? = some (t.kind == 15) then some st.dropLast else none)
  else if t.kind = 19 then (if st.getLast? = some false then some st else none)
  else some st
def nestF : List Tk → List Bool → Option (List Bool)
  | [], st => some st
  | t :: r, st => match nestStep t st with
    | none => none
    | some st => nestF r st
theorem nestF_snoc (t : Tk) : ∀ (l : List Tk) (st st' : List Bool), nestF l st = some st' → nestF (l ++ [t]) st = nestStep t st'
  | [], st, st', h => by
    injection h with h
    subst h
    show (match nestStep t st with | none => none | some st => nestF [] st) = _
    cases nestStep t st <;> rfl
  | u :: r, st, st', h => by
    have h : (match nestStep u st with | none => none | some st => nestF r st) = some st' := h
    show (match nestStep u st with | none => none | some st => nestF (r ++ [t]) st) = _
    cases e : nestStep u st with
    | none =>
      rw [e] at h
      cases h
    | some s2 =>
      rw [e] at h
      exact nestF_snoc t r s2 st' h
def stOf (o : List Int) (w : Int) : List Bool := o.map (fun c => c == 0) ++ (if w = 1 then [false] else [])
theorem stOf_not {o : List Int} {w : Int} (h : w ≠ 1) : stOf o w = o.map (fun c => c == 0) := by
  unfold stOf
  rw [if_neg h, List.append_nil]
theorem last_top {o : List Int} (h : o ≠ []) : (o.map (fun c => c == 0)).getLast? = some (topL o == 0) := by
  obtain ⟨a, c, rfl⟩ : ∃ a c, o = a ++ [c] := ⟨o.dropLast, o.getLast h, (List.dropLast_concat_getLast h).symm⟩
  rw [List.map_append, topL_push]
  simp
theorem nextR_nests (l : List Tk) (hp : Plain l) : ∀ (r : List Tk) (i : Nat) (o : List Int) (w : Int), r = l.drop i → Ok l i o w → (nextR r i o w).err = 0 →
    ((nextR r i o w).tok.kind = 21 → stOf o w = []) ∧ ((nextR r i o w).tok.kind ≠ 21 → nestStep (nextR r i o w).tok (stOf o w) = some (stOf (nextR r i o w).opn (nextR r i o w).wait)) := by
  have hr1 : ∀ (t : Tk) (o : List Int) (w : Int), w ≠ 1 → 0 < topL o → t.kind = 20 → nestStep t (stOf o w) = some (stOf o.dropLast w) := by
    intro t o w hw ho hk
    unfold nestStep
    have e1 : (t.kind == 18 || isOpen t) = false := by
      unfold isOpen
      rw [hk]
      rfl
    have e2 : (t.kind == 20 || isShut t) = true := by rw [hk]; rfl
    have e3 : (topL o == 0) = (t.kind == 15) := by
      rw [hk, beq_eq_false_iff_ne.2 (by omega : topL o ≠ 0)]
      rfl
    rw [e1, e2, stOf_not hw, stOf_not hw, last_top (top_ne ho), e3]
    simp
  intro r
  induction r with
  | nil =>
    intro i o w hr h
    have hi : l.length ≤ i := List.drop_eq_nil_iff.1 hr.symm
    have hw := wait_end h hi
    subst hw
    unfold nextR
    split
    · rename_i ho
      subst ho
      exact fun _ => ⟨fun _ => rfl, fun q => absurd rfl q⟩
    · split
      · rename_i ho
        exact fun _ => ⟨fun q => absurd q (by simp [endT]), fun _ => hr1 _ _ _ (by decide) ho rfl⟩
      · intro q
        cases q
  | cons t r ih =>
    intro i o w hr h
    obtain ⟨ht, hr2, hi⟩ := drop_cons hr
    have hk := hp t (List.mem_of_getElem? ht)
    have h0 := topL_nonneg h.opn
    unfold nextR
    split
    · rename_i h1
      have hw : w ≠ 1 := by omega
      split
      · rename_i h2
        refine fun _ => ⟨fun q => absurd q (by simp [atT]), fun _ => ?_⟩
        dsimp only
        rw [stOf_not hw, stOf_not hw]
        have e : (t.col == 0) = false := beq_eq_false_iff_ne.2 (by omega)
        simp [nestStep, atT, isOpen, e]
      · refine fun _ => ⟨fun q => absurd q (by simp [atT]), fun _ => ?_⟩
        dsimp only
        rw [stOf_not hw]
        simp [nestStep, atT, isOpen, stOf]
    · split
      · rename_i h1
        refine fun _ => ⟨fun q => absurd q (by simp [atT]), fun _ => ?_⟩
        dsimp only
        rw [h1.2, stOf_not (by decide : (2 : Int) ≠ 1)]
        simp [nestStep, atT, isOpen, isShut, stOf]
      · rename_i h1 h2
        split
        · rename_i h3
          have hw : w ≠ 1 := by
            intro e
            by_cases q : t.kind = 16
            · exact h2 ⟨q, e⟩
            · have := wait_zero h ht q
              omega
          split
          · rename_i h4
            exact fun _ => ⟨fun q => absurd q (by simp [atT]), fun _ => hr1 _ _ _ hw h4.1 rfl⟩
          · split
            · rename_i h5
              refine fun _ => ⟨fun q => absurd q (by simp [atT]), fun _ => ?_⟩
              dsimp only
              rw [stOf_not hw, stOf_not (by decide : (0 : Int) ≠ 1)]
              have e3 : (topL o == 0) = false := beq_eq_false_iff_ne.2 (by omega)
              simp [nestStep, atT, isOpen, isShut, last_top (top_ne h5.1), e3]
            · intro e
              have := ih (i + 1) o 0 hr2 (pass_ok h hi) e
              rw [stOf_not (by decide : (0 : Int) ≠ 1)] at this
              rw [stOf_not hw]
              exact this
        · rename_i h3
          have hwz : w = 0 := wait_zero h ht (fun e => h3 (.inl e))
          subst hwz
          have hz : (0 : Int) ≠ 1 := by decide
          have n18 : (t.kind == 18) = false := beq_eq_false_iff_ne.2 (by omega)
          have n20 : (t.kind == 20) = false := beq_eq_false_iff_ne.2 (by omega)
          split
          · rename_i h4
            have k15 : (t.kind == 15) = true := by
              unfold isShut at h4
              rw [Bool.and_eq_true] at h4
              exact h4.1
            have no : isOpen t = false := by
              unfold isShut at h4
              rw [Bool.and_eq_true, beq_iff_eq, beq_iff_eq] at h4
              unfold isOpen
              rw [h4.2]
              simp
            split
            · intro q
              cases q
            · rename_i h5
              have ho : o ≠ [] := fun e => h5 (.inl e)
              refine fun _ => ⟨fun q => absurd q (by dsimp only; omega), fun _ => ?_⟩
              dsimp only
              rw [stOf_not hz, stOf_not hz]
              have e3 : (topL o == 0) = true := beq_iff_eq.2 (by have : ¬ 0 < topL o := fun e => h5 (.inr e); omega)
              unfold nestStep
              rw [n18, n20, no, h4, last_top ho, e3, k15]
              simp
          · rename_i h4
            have ns : isShut t = false := Bool.eq_false_iff.2 h4
            split
            · rename_i h5
              have k15 : (t.kind == 15) = true := by
                unfold isOpen at h5
                rw [Bool.and_eq_true] at h5
                exact h5.1
              refine fun _ => ⟨fun q => absurd q (by dsimp only; omega), fun _ => ?_⟩
              dsimp only
              rw [stOf_not hz, stOf_not hz]
              unfold nestStep
              rw [n18, h5, k15]
              simp
            · rename_i h5
              have no : isOpen t = false := Bool.eq_false_iff.2 h5
              refine fun _ => ⟨fun q => absurd q (by dsimp only; omega), fun _ => ?_⟩
              dsimp only
              unfold nestStep
              rw [n18, n20, no, ns]
              have : ¬ t.kind = 19 := by omega
              simp [this]
theorem nests_all (l : List Tk) (hp : Plain l) (he : (allL l).2 = 0) : nestF (allL l).1 [] = some [] := by
  refine allF_ind l (fun i o w out => nestF out [] = some (stOf o w)) (fun out => nestF out [] = some []) ?_ ?_ _ _ _ _ _ (ok_start l) rfl he
  · intro i o w out h p e k
    rw [nestF_snoc _ _ _ _ p]
    exact (nextR_nests l hp _ i o w rfl h e).2 k
  · intro i o w out h p e k
    rw [p, (nextR_nests l hp _ i o w rfl h e).1 k]
end Go.Proofs.Ytmgclgojmckfhaa.Lay
/-
  Slices of ints that are only read, states as they are read, rows of ints of the call's own. No condition but sizes.
-/
namespace Go.Proofs.Ytmgclgojmckfhaa.Lay
open Tks Mrk Go.RowKit
set_option linter.unusedSimpArgs false
set_option linter.unusedVariables false

/-- The ints that a slice holds. -/
def IntArg (w : World) (v : Value) (l : List Int) : Prop :=
  (l = [] ∧ ∃ a c, v = .slice a 0 c) ∨
  (∃ b off c, v = .slice (some ⟨b, off, none⟩) l.length c ∧ l.length ≤ c ∧ b < w.heap.size ∧ ∀ (i : Nat) (x : Int), l[i]? = some x → w.cell? ⟨b, off + i, none⟩ = some (.int .i64 x))
theorem IntArg.len {w : World} {v : Value} {l : List Int} (h : IntArg w v l) : ∃ a c, v = .slice a l.length c := by
  rcases h with ⟨rfl, a, c, rfl⟩ | ⟨b, off, c, rfl, -⟩
  · exact ⟨a, c, rfl⟩
  · exact ⟨_, c, rfl⟩
theorem IntArg.below {w w' : World} {v : Value} {l : List Int} {B : Nat} (h : IntArg w v l) (hb : Below B w w') (hB : w.heap.size ≤ B) : IntArg w' v l := by
  rcases h with h | ⟨b, off, c, hv, hlc, hlt, hc⟩
  · exact .inl h
  · exact .inr ⟨b, off, c, hv, hlc, Nat.lt_of_lt_of_le hlt hb.size, fun i x hx => (World.cell?_of_block (hb.block b (Nat.lt_of_lt_of_le hlt hB))).trans (hc i x hx)⟩
theorem IntArg.cells {w : World} {v : Value} {l : List Int} (h : IntArg w v l) (hl : l.length ≠ 0) : ∃ b off c, v = .slice (some ⟨b, off, none⟩) l.length c ∧ l.length ≤ c ∧ b < w.heap.size ∧ ∀ (i : Nat) (x : Int), l[i]? = some x → w.cell? ⟨b, off + i, none⟩ = some (.int .i64 x) := by
  rcases h with ⟨rfl, -⟩ | h
  · exact absurd rfl hl
  · exact h
/-- A beginning of what a slice holds. -/
theorem IntArg.take {w : World} {b off c n : Nat} {l : List Int} (hlc : l.length ≤ c) (hlt : b < w.heap.size) (hc : ∀ (i : Nat) (x : Int), l[i]? = some x → w.cell? ⟨b, off + i, none⟩ = some (.int .i64 x)) (hn : n ≤ l.length) : IntArg w (.slice (some ⟨b, off, none⟩) n c) (l.take n) := by
  refine .inr ⟨b, off, c, by rw [List.length_take, Nat.min_eq_left hn], by rw [List.length_take]; omega, hlt, fun i x hx => hc i x ?_⟩
  rw [List.getElem?_take] at hx
  split at hx
  · exact hx
  · cases hx
theorem infoIntL : (Try.prog.info? 3).map (fun i => (i.zero, i.size, i.bytes)) = some (some (.int .i64 0), 1, 8) := by kernel_rfl
/-- A row of ints of the call's own. -/
def IntOwn (w : World) (B : Nat) (v : Value) (l : List Int) : Prop := w.ownsRow B 3 1 v l.length (l.map (Value.int .i64))
theorem IntOwn.nil (w : World) (B : Nat) : IntOwn w B (.slice none 0 0) [] := World.ownsRow_nil _ _ _ _
theorem IntOwn.arg {w : World} {B : Nat} {v : Value} {l : List Int} (h : IntOwn w B v l) : IntArg w v l := by
  rcases h.2 with ⟨rfl, h0⟩ | ⟨g, cap, cur, rfl, hb, hg, hnc, _⟩
  · obtain rfl : l = [] := List.eq_nil_of_length_eq_zero h0
    exact .inl ⟨rfl, _, _, rfl⟩
  · refine .inr ⟨g, 0, cap, rfl, hnc, lt_of_block hg, fun i x hx => ?_⟩
    have := World.ownsRow.cells h (g := g) rfl i (.int .i64 x) (by rw [List.getElem?_map, hx]; rfl)
    rw [add_plain] at this
    rw [Nat.zero_add]
    exact this
theorem IntOwn.below {w w' : World} {B C : Nat} {v : Value} {l : List Int} (h : IntOwn w B v l) (hb : Below C w w') (hC : w.heap.size ≤ C) : IntOwn w' B v l := by
  have hg : w.grownBy w' none := ⟨hb.os, hb.tape, hb.output, hb.size, fun k hk _ => hb.block k (by omega)⟩
  rcases hv : v.ownBlock with _ | g
  · exact World.ownsRow.kept h hg (.inl hv)
  · exact World.ownsRow.kept h hg (.inr (by rw [hv]; simp))
set_option maxRecDepth 100000 in
/-- append of what a slice holds, whatever the slice, to a row of the call's own. -/
theorem append_ints (w : World) {ops : Array Oper} {rest : List Oper} {o : Oper} {a : Act} {Q : Exit → Act → World → Prop} (hg : o.guard = none) (sl x : Operand) (hop : o.op = Op.call { callee := Callee.builtin Builtin.append, args := #[sl, x], argTypes := #[23, 23] })
    (base : Nat) (v : Value) (l0 : List Int) (hs : a.eval sl = v) (hown : IntOwn w base v l0) (vx : Value) (l : List Int) (hx : a.eval x = vx) (hsrc : IntArg w vx l) (b1 : l0.length + l.length ≤ 1099511627777) (hB : base ≤ w.heap.size)
    (hK : ∀ v' w', IntOwn w' base v' (l0 ++ l) → Below base w w' → wpList Try.prog ops Q rest (a.put o.dst v') w') :
    wpList Try.prog ops Q (o :: rest) a w := by
  obtain ⟨i0, hi, hz0, hz1, hz2⟩ := info_parts infoIntL
  have one : ∀ u ∈ l.map (Value.int .i64), u.oneCell' = true := by
    intro u hu
    obtain ⟨t, _, rfl⟩ := List.mem_map.1 hu
    rfl
  have bel : ∀ w', w.grownBy w' v.ownBlock → Below base w w' := fun w' hgr => Below.grown (Below.refl base w) hgr hB (fun k hk => (World.ownsRow.lt hown k hk).1)
  have some_ : ∀ (ad : Addr) (c : Nat), vx = .slice (some ad) l.length c → (∀ j u, (l.map (Value.int .i64))[j]? = some u → w.cell? (ad.add j) = some u) → wpList Try.prog ops Q (o :: rest) a w := by
    intro ad c hv hc
    subst hv
    refine wpList_append_own_at w hg sl x 23 hop base 3 i0 _ 1 8 Try.underlying23 hi hz0 hz1 hz2 rfl (by decide) v l0.length (l0.map (Value.int .i64)) hs hown ad l.length c (l.map (Value.int .i64)) hx (by simp) hc one (by unfold maxLen; omega) (by omega) hB ?_
    intro v' w' h1 h2 _ h4
    refine hK v' w' ?_ (bel w' h2)
    unfold IntOwn
    rw [List.length_append, List.map_append]
    exact h1
  rcases hsrc with ⟨rfl, ad, c, rfl⟩ | ⟨b, off, c, rfl, _, _, hc⟩
  · cases ad with
    | some ad => exact some_ ad c rfl (fun j u hj => by simp at hj)
    | none =>
      refine wpList_plain hg fun K hK' => ?_
      have hr := Tks.run_append_nil (P := Try.prog) w 23 o.type 3 i0 Try.underlying23 hi v base 1 l0.length (l0.map (Value.int .i64)) hown c
      unfold Oper.wp execOp
      simp only [hop, resolve, invoke, builtin, Sem.run_bind, Sem.run_pure, Result.andThen_ok, List.map_toArray, List.map_cons, List.map_nil, hs, hx, hr]
      refine hK' _ _ (hK v w (by simpa using hown) (Below.refl _ _))
  · refine some_ _ c rfl (fun j u hj => ?_)
    rw [List.getElem?_map] at hj
    cases e : l[j]? with
    | none => rw [e] at hj; cases hj
    | some x =>
      rw [e] at hj
      cases hj
      rw [← hc j x e]
      congr 1
      unfold Addr.add
      split <;> simp_all
/-- append of one int that was just laid, to a row of the call's own. -/
theorem append_int1 (wr : World) {ops : Array Oper} {rest : List Oper} {o : Oper} {a : Act} {Q : Exit → Act → World → Prop} (hg : o.guard = none) (sl x : Operand) (hop : o.op = Op.call { callee := Callee.builtin Builtin.append, args := #[sl, x], argTypes := #[23, 23] })
    (base : Nat) (v : Value) (l0 : List Int) (hs : a.eval sl = v) (hown : IntOwn wr base v l0) (z : Int) (ty : TypeId) (c : Nat) (hx : a.eval x = .slice (some ⟨wr.heap.size, 0, none⟩) 1 (c + 1)) (b1 : l0.length + 1 ≤ 1099511627777) (hB : base ≤ wr.heap.size)
    (hK : ∀ v' w', IntOwn w' base v' (l0 ++ [z]) → Below base wr w' → wpList Try.prog ops Q rest (a.put o.dst v') w') :
    wpList Try.prog ops Q (o :: rest) a (wr.alloc (.cells #[.int .i64 z] ty)) := by
  have h0 : Below wr.heap.size wr (wr.alloc (.cells #[.int .i64 z] ty)) := (Below.refl _ _).alloc (Nat.le_refl _) _
  have s1 : (wr.alloc (.cells #[.int .i64 z] ty)).heap.size = wr.heap.size + 1 := Array.size_push _
  refine append_ints _ hg sl x hop base v l0 hs (hown.below h0 (Nat.le_refl _)) _ [z] hx ?_ b1 (by omega) ?_
  · refine .inr ⟨wr.heap.size, 0, c + 1, rfl, by simp, by omega, fun i y hy => ?_⟩
    rw [new_cell, Nat.zero_add]
    have hi := (List.getElem?_eq_some_iff.1 hy).1
    simp only [List.length_cons, List.length_nil] at hi
    obtain rfl : i = 0 := by omega
    cases hy
    rfl
  · intro v' w' h1 h2
    exact hK v' w' h1 ((h0.mono hB).trans h2)

/-- A state as it is read. -/
structure Sx where
  toks : List Tk
  at_ : Int
  opn : List Int
  wait : Int
def zeroS : Sx := ⟨[], 0, [], 0⟩
def StV (w : World) (v : Value) (s : Sx) : Prop := ∃ vt vo, v = .agg #[vt, .int .i64 s.at_, vo, .int .i64 s.wait] ∧ TkArg w vt s.toks ∧ IntArg w vo s.opn
theorem StV.below {w w' : World} {v : Value} {s : Sx} {B : Nat} (h : StV w v s) (hb : Below B w w') (hB : w.heap.size ≤ B) : StV w' v s := by
  obtain ⟨vt, vo, e, h1, h2⟩ := h
  exact ⟨vt, vo, e, h1.below hb hB, h2.below hb hB⟩
theorem StV.zero (w : World) : StV w (.agg #[.slice none 0 0, .int .i64 0, .slice none 0 0, .int .i64 0]) zeroS := ⟨_, _, rfl, .inl ⟨rfl, _, _, rfl⟩, .inl ⟨rfl, _, _, rfl⟩⟩
/-- May a state be? -/
def okB (s : Sx) : Bool := decide (0 ≤ s.at_) && decide (s.at_ ≤ s.toks.length) && decide (0 ≤ s.wait) && decide (s.wait ≤ 2) && (decide (s.wait ≤ 0) || (match s.toks[s.at_.toNat]? with | some t => t.kind == 16 | none => false)) && s.opn.all (fun c => decide (0 ≤ c))
theorem okB_iff (s : Sx) : okB s = true ↔ ∃ n : Nat, s.at_ = n ∧ Ok s.toks n s.opn s.wait := by
  unfold okB
  simp only [Bool.and_eq_true, Bool.or_eq_true, decide_eq_true_eq, List.all_eq_true]
  constructor
  · rintro ⟨⟨⟨⟨⟨h1, h2⟩, h3⟩, h4⟩, h5⟩, h6⟩
    refine ⟨s.at_.toNat, by omega, by omega, h6, h3, h4, fun q => ?_⟩
    rcases h5 with h5 | h5
    · omega
    · cases e : s.toks[s.at_.toNat]? with
      | none => rw [e] at h5; cases h5
      | some t =>
        rw [e] at h5
        exact ⟨t, rfl, beq_iff_eq.1 h5⟩
  · rintro ⟨n, e, h⟩
    have hn : s.at_.toNat = n := by omega
    refine ⟨⟨⟨⟨⟨by omega, by have := h.at_; omega⟩, h.wlo⟩, h.whi⟩, ?_⟩, h.opn⟩
    rcases Int.lt_or_le 0 s.wait with q | q
    · obtain ⟨t, ht, hk⟩ := h.wat q
      rw [hn, ht]
      exact .inr (beq_iff_eq.2 hk)
    · exact .inl q
/-- What Next, Close and All answer. -/
def nextS (s : Sx) : Tk × Sx × Int := if okB s = true then (let n := nextL s.toks s.at_.toNat s.opn s.wait; (n.tok, ⟨s.toks, n.at_, n.opn, n.wait⟩, n.err)) else (zeroT, zeroS, 1)
def closeS (s : Sx) : Sx × Bool := if (okB s && (s.wait != 1 && decide (0 < topL s.opn))) = true then (⟨s.toks, s.at_, s.opn.dropLast, s.wait⟩, true) else (zeroS, false)
/-- Sizes that are borne. -/
def Fit9 (s : Sx) : Prop := s.toks.length ≤ 1099511627776 ∧ s.opn.length ≤ 1099511627776
def tkV9 (t : Tk) : Value := .agg #[.int .i64 t.kind, .string t.text, .int .i64 t.line, .int .i64 t.col]
def NextOut (W : World) (s : Sx) (e : Ending) (w' : World) : Prop := ∃ v, e = .returned (.tuple #[tkV9 (nextS s).1, v, .int .i64 (nextS s).2.2]) ∧ StV w' v (nextS s).2.1 ∧ Below W.heap.size W w'
def CloseOut (W : World) (s : Sx) (e : Ending) (w' : World) : Prop := ∃ v, e = .returned (.tuple #[v, .bool (closeS s).2]) ∧ StV w' v (closeS s).1 ∧ Below W.heap.size W w'
def AllOut (W : World) (l : List Tk) (e : Ending) (w' : World) : Prop := ∃ v, e = .returned (.tuple #[v, .int .i64 (allL l).2]) ∧ TkArg w' v (allL l).1 ∧ Below W.heap.size W w'
end Go.Proofs.Ytmgclgojmckfhaa.Lay
