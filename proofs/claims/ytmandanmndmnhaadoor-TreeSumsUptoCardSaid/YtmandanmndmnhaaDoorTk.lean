/-
  Tokens as they are read: slices of them that came in or that the call has made, what lies in them, how they grow, when two hold the same. No condition but sizes.
-/
import Derived.Test.YtmandanmndmnhaaDoorRows
import Derived.WalkKit
import Derived.OwnWalk
import Derived.Laws.OwnMore
import Derived.Maps.AppendAt
import Derived.Deep.AppendLies
import Derived.Deep.AppendSrc
import Derived.Deep.Slices
import Derived.Deep.Fields
import Derived.ChangeSame
import Derived.Lib.Hide
import Derived.Lib.MapLaws
import Derived.Deep.Draws
import Derived.Deep.QuietTactic
import Derived.BigQuiet
import Derived.LoopTactic
import Derived.Handy
namespace Go.Proofs.YtmandanmndmnhaaDoor.Tks
open Go.RowKit
set_option linter.unusedSimpArgs false
set_option linter.unusedVariables false

theorem below_drewN {B : Nat} {a w : World} (h : Below B a w) (n : Nat) : Below B a (w.drewN n) := ⟨h.os, h.tape, h.output, h.size, h.block⟩
theorem undrew {w w' : World} {B n : Nat} (h : Below B (w.drewN n) w') : Below B w w' := ⟨h.os, h.tape, h.output, h.size, h.block⟩
theorem infoTok : (Tryd.prog.info? 42).map (fun i => (i.zero, i.size, i.bytes)) = some (some (.agg #[.int .i64 0, .string ⟨#[]⟩, .int .i64 0, .int .i64 0]), 4, 40) := by kernel_rfl
theorem add_plain (g j : Nat) : (⟨g, 0, none⟩ : Addr).add j = ⟨g, j, none⟩ := by unfold Addr.add; split <;> simp_all
theorem flat_at {α : Type} (f : α → List Value) (k : Nat) (hf : ∀ x, (f x).length = k) : ∀ (l : List α) (i j : Nat) (x : α), l[i]? = some x → j < k → (l.flatMap f)[i * k + j]? = (f x)[j]?
  | [], i, j, x, h, _ => by simp at h
  | y :: l, 0, j, x, h, hj => by
    simp at h
    subst h
    rw [List.flatMap_cons, Nat.zero_mul, Nat.zero_add, List.getElem?_append_left (by rw [hf]; exact hj)]
  | y :: l, i + 1, j, x, h, hj => by
    have := flat_at f k hf l i j x (by simpa using h) hj
    rw [List.flatMap_cons, List.getElem?_append_right (by rw [hf, Nat.succ_mul]; omega), hf, Nat.succ_mul, show i * k + k + j - k = i * k + j by omega]
    exact this
theorem flat_len {α : Type} (f : α → List Value) (k : Nat) (hf : ∀ x, (f x).length = k) : ∀ l : List α, (l.flatMap f).length = l.length * k
  | [] => by simp
  | y :: l => by rw [List.flatMap_cons, List.length_append, hf, flat_len f k hf l, List.length_cons, Nat.succ_mul, Nat.add_comm]
theorem own_slice {w : World} {B size n : Nat} {e : TypeId} {v : Value} {xs : List Value} (h : w.ownsRow B e size v n xs) : ∃ a k c, v = .slice a k c := by
  rcases h.2 with ⟨rfl, _⟩ | ⟨g, cap, cur, rfl, _⟩
  · exact ⟨_, _, _, rfl⟩
  · exact ⟨_, _, _, rfl⟩
theorem own_len {w : World} {B size n : Nat} {e : TypeId} {v : Value} {xs : List Value} (h : w.ownsRow B e size v n xs) : ∃ a c, v = .slice a n c := by
  rcases h.2 with ⟨rfl, h0⟩ | ⟨g, cap, cur, rfl, _⟩
  · subst h0
    exact ⟨_, _, rfl⟩
  · exact ⟨_, _, rfl⟩
/-- A token as it is read. -/
structure Tk where
  kind : Int
  text : ByteArray
  line : Int
  col : Int
def tkC (t : Tk) : List Value := [.int .i64 t.kind, .string t.text, .int .i64 t.line, .int .i64 t.col]
/-- The tokens that a slice holds. -/
def TkArg (w : World) (v : Value) (l : List Tk) : Prop :=
  (l = [] ∧ ∃ a c, v = .slice a 0 c) ∨
  (∃ b off c, v = .slice (some ⟨b, off, none⟩) l.length c ∧ b < w.heap.size ∧ ∀ (i : Nat) (t : Tk), l[i]? = some t → ∀ k : Nat, k < 4 → w.cell? ⟨b, off + i * 4 + k, none⟩ = (tkC t)[k]?)
theorem TkArg.below {w w' : World} {v : Value} {l : List Tk} {B : Nat} (h : TkArg w v l) (hb : Below B w w') (hB : w.heap.size ≤ B) : TkArg w' v l := by
  rcases h with h | ⟨b, off, c, hv, hlt, hc⟩
  · exact .inl h
  · exact .inr ⟨b, off, c, hv, Nat.lt_of_lt_of_le hlt hb.size, fun i t ht k hk => (World.cell?_of_block (hb.block b (Nat.lt_of_lt_of_le hlt hB))).trans (hc i t ht k hk)⟩
theorem idx_at (k n : Nat) (h : k < n) (hm : n ≤ 3518437208880) : wrap64 ((k : Int) + 1) = (k : Int) + 1 := by
  have h1 : (k : Int) ≤ 3518437208880 := by omega
  have h2 : (0 : Int) ≤ (k : Int) := by omega
  generalize (k : Int) = z at h1 h2 ⊢
  unfold wrap64
  omega
theorem TkArg.len {w : World} {v : Value} {l : List Tk} (h : TkArg w v l) : ∃ a c, v = .slice a l.length c := by
  rcases h with ⟨rfl, a, c, rfl⟩ | ⟨b, off, c, rfl, -⟩
  · exact ⟨a, c, rfl⟩
  · exact ⟨_, c, rfl⟩
theorem TkArg.cells {w : World} {v : Value} {l : List Tk} (h : TkArg w v l) (hl : l.length ≠ 0) : ∃ b off c, v = .slice (some ⟨b, off, none⟩) l.length c ∧ b < w.heap.size ∧ ∀ (i : Nat) (t : Tk), l[i]? = some t → ∀ k : Nat, k < 4 → w.cell? ⟨b, off + i * 4 + k, none⟩ = (tkC t)[k]? := by
  rcases h with ⟨rfl, -⟩ | h
  · exact absurd rfl hl
  · exact h
/-- Cells that a later world still holds. -/
def TkIn (w : World) (b off : Nat) (l : List Tk) : Prop := b < w.heap.size ∧ ∀ (i : Nat) (t : Tk), l[i]? = some t → ∀ k : Nat, k < 4 → w.cell? ⟨b, off + i * 4 + k, none⟩ = (tkC t)[k]?
theorem TkIn.below {w w' : World} {b off : Nat} {l : List Tk} {B : Nat} (h : TkIn w b off l) (hb : Below B w w') (hB : w.heap.size ≤ B) : TkIn w' b off l :=
  ⟨Nat.lt_of_lt_of_le h.1 hb.size, fun i t ht k hk => (World.cell?_of_block (hb.block b (Nat.lt_of_lt_of_le h.1 hB))).trans (h.2 i t ht k hk)⟩
theorem TkIn.four {w : World} {b off : Nat} {l : List Tk} (h : TkIn w b off l) (i : Nat) (t : Tk) (ht : l[i]? = some t) :
    w.cell? ⟨b, off + i * 4, none⟩ = some (.int .i64 t.kind) ∧ w.cell? ⟨b, off + i * 4 + 1, none⟩ = some (.string t.text) ∧ w.cell? ⟨b, off + i * 4 + 2, none⟩ = some (.int .i64 t.line) ∧ w.cell? ⟨b, off + i * 4 + 3, none⟩ = some (.int .i64 t.col) :=
  ⟨h.2 i t ht 0 (by omega), h.2 i t ht 1 (by omega), h.2 i t ht 2 (by omega), h.2 i t ht 3 (by omega)⟩
theorem run_append_nil {P : Program} (w : World) (t ty e : TypeId) (i : TypeInfo) (ht : P.underlying t = some (.slice e)) (hi : P.info? e = some i) (v : Value) (base size n : Nat) (xs : List Value) (hown : w.ownsRow base e size v n xs) (c : Nat) :
    (Builtin.append_ #[t, t] ty #[v, .slice none 0 c]).run P w = .ok v w := by
  rcases hown.2 with ⟨rfl, rfl⟩ | ⟨g, cap, cur, rfl, _, _, hnc, _, _, _⟩
  · simp [Builtin.append_, run_underlying ht, sizeOf, typeInfo, hi, Builtin.lenOf, Builtin.firstCells]
  · have := run_append_room_src w t t ty e i ht hi g 0 n cap (.slice none 0 c) 0 [] (Src.ofNil w ht c) (by omega) (fun j hj => absurd hj (by simp)) (fun j hj => absurd hj (by simp))
    simpa [World.setCells] using this
theorem tk_len (t : Tk) : (tkC t).length = 4 := rfl
theorem own_arg {w : World} {B : Nat} {v : Value} {l : List Tk} (h : w.ownsRow B 42 4 v l.length (l.flatMap tkC)) : TkArg w v l := by
  rcases h.2 with ⟨rfl, h0⟩ | ⟨g, cap, cur, rfl, hb, hg, _⟩
  · obtain rfl : l = [] := List.eq_nil_of_length_eq_zero h0
    exact .inl ⟨rfl, _, _, rfl⟩
  · refine .inr ⟨g, 0, cap, rfl, lt_of_block hg, fun i t ht k hk => ?_⟩
    have h0 := flat_at tkC 4 tk_len l i k t ht hk
    obtain ⟨u, hu⟩ : ∃ u, (tkC t)[k]? = some u := ⟨_, List.getElem?_eq_getElem (by rw [tk_len]; exact hk)⟩
    rw [hu] at h0 ⊢
    have := World.ownsRow.cells h (g := g) rfl _ _ h0
    rw [add_plain] at this
    rw [Nat.zero_add]
    exact this
theorem tk_news {w : World} {b off : Nat} {l : List Tk} (h : ∀ (i : Nat) (t : Tk), l[i]? = some t → ∀ k : Nat, k < 4 → w.cell? ⟨b, off + i * 4 + k, none⟩ = (tkC t)[k]?) (j : Nat) (u : Value) (hj : (l.flatMap tkC)[j]? = some u) : w.cell? ((⟨b, off, none⟩ : Addr).add j) = some u := by
  have hlen := (List.getElem?_eq_some_iff.1 hj).1
  rw [flat_len tkC 4 tk_len] at hlen
  have hi : j / 4 < l.length := by omega
  have h0 := flat_at tkC 4 tk_len l (j / 4) (j % 4) _ (List.getElem?_eq_getElem hi) (by omega)
  rw [show j / 4 * 4 + j % 4 = j by omega, hj] at h0
  have h1 := h (j / 4) _ (List.getElem?_eq_getElem hi) (j % 4) (by omega)
  rw [← h0] at h1
  have e : (⟨b, off, none⟩ : Addr).add j = ⟨b, off + j / 4 * 4 + j % 4, none⟩ := by
    rw [show off + j / 4 * 4 + j % 4 = off + j by omega]
    unfold Addr.add
    split <;> simp_all
  rw [e]
  exact h1
/-- append of a slice's tokens, whatever the slice, to a row of the call's own. -/
theorem append_toks (w : World) {ops : Array Oper} {rest : List Oper} {o : Oper} {a : Act} {Q : Exit → Act → World → Prop} (hg : o.guard = none) (sl x : Operand) (hop : o.op = Op.call { callee := Callee.builtin Builtin.append, args := #[sl, x], argTypes := #[29, 29] })
    (base : Nat) (v : Value) (n : Nat) (xs : List Value) (hs : a.eval sl = v) (hown : w.ownsRow base 42 4 v n xs) (vx : Value) (l : List Tk) (hx : a.eval x = vx) (hsrc : TkArg w vx l) (b1 : n + l.length ≤ 3518437208880) (hB : base ≤ w.heap.size)
    (hK : ∀ v' w', w'.ownsRow base 42 4 v' (n + l.length) (xs ++ l.flatMap tkC) → w.grownBy w' v.ownBlock → (v'.ownBlock = v.ownBlock ∨ v'.ownBlock = some w.heap.size) → wpList Tryd.prog ops Q rest (a.put o.dst v') w') :
    wpList Tryd.prog ops Q (o :: rest) a w := by
  obtain ⟨i0, hi, hz0, hz1, hz2⟩ := info_parts infoTok
  have one : ∀ u ∈ l.flatMap tkC, u.oneCell' = true := by
    intro u hu
    obtain ⟨t, _, ht⟩ := List.mem_flatMap.1 hu
    simp only [tkC, List.mem_cons, List.not_mem_nil, or_false] at ht
    rcases ht with rfl | rfl | rfl | rfl <;> rfl
  have some_ : ∀ (ad : Addr) (c : Nat), vx = .slice (some ad) l.length c → (∀ j u, (l.flatMap tkC)[j]? = some u → w.cell? (ad.add j) = some u) → wpList Tryd.prog ops Q (o :: rest) a w := by
    intro ad c hv hc
    subst hv
    refine wpList_append_own_at w hg sl x 29 hop base 42 i0 _ 4 40 Tryd.underlying29 hi hz0 hz1 hz2 rfl (by decide) v n xs hs hown ad l.length c (l.flatMap tkC) hx (flat_len tkC 4 tk_len l) hc one (by unfold maxLen; omega) (by omega) hB ?_
    intro v' w' h1 h2 _ h4
    exact hK v' w' h1 h2 h4
  rcases hsrc with ⟨rfl, ad, c, rfl⟩ | ⟨b, off, c, rfl, _, hc⟩
  · cases ad with
    | some ad => exact some_ ad c rfl (fun j u hj => by simp at hj)
    | none =>
      refine wpList_plain hg fun K hK' => ?_
      have hr := run_append_nil (P := Tryd.prog) w 29 o.type 42 i0 Tryd.underlying29 hi v base 4 n xs hown c
      unfold Oper.wp execOp
      simp only [hop, resolve, invoke, builtin, Sem.run_bind, Sem.run_pure, Result.andThen_ok, List.map_toArray, List.map_cons, List.map_nil, hs, hx, hr]
      refine hK' _ _ (hK v w (by simpa using hown) ⟨rfl, rfl, rfl, Nat.le_refl _, fun _ _ _ => rfl⟩ (.inl rfl))
  · exact some_ _ c rfl (tk_news hc)

theorem cellsTok : Tryd.prog.cellsOf 42 = 4 := by kernel_rfl
theorem cellsIntT : Tryd.prog.cellsOf 3 = 1 := by kernel_rfl
theorem cellsStrT : Tryd.prog.cellsOf 9 = 1 := by kernel_rfl
def tkD {H : Type} (t : Tk) : DataW H := .agg [.lit (.int .i64 t.kind), .lit (.string t.text.data.toList), .lit (.int .i64 t.line), .lit (.int .i64 t.col)]
set_option maxRecDepth 1000000 in
theorem read_tok {H : Type} {enc : TypeId × Value → H} {w : World} {base : Nat} {sp : Nat → Bool} {held : Bool} {n : Nat} {cs : List Value} {x : DataW H × List MemPlace} (h : DataW.trod enc Tryd.prog w base sp held n 42 cs = some x) :
    ∃ t : Tk, cs = tkC t ∧ x.1 = tkD t ∧ (Lit.int .i64 t.line).wf = true := by
  obtain ⟨xs, m, _, hx, hlen, hxl, hf⟩ := DataW.trod_struct Tryd.underlying42 h
  rw [cellsTok] at hlen
  have h0 := hf 0 _ rfl
  have h1 := hf 1 _ rfl
  have h2 := hf 2 _ rfl
  have h3 := hf 3 _ rfl
  match cs, hlen with
  | [c0, c1, c2, c3], _ =>
    match xs, hxl with
    | [y0, y1, y2, y3], _ =>
      simp only [cellsIntT, cellsStrT, List.drop_zero, List.drop_succ_cons, List.take_succ_cons, List.take_zero, List.getElem?_cons_zero, List.getElem?_cons_succ] at h0 h1 h2 h3
      obtain ⟨k, e0, g0, _⟩ := DataW.trod_int Tryd.underlying3 h0
      obtain ⟨s, e1, g1, _⟩ := DataW.trod_string Tryd.underlying9 h1
      obtain ⟨l, e2, g2, hwf⟩ := DataW.trod_int Tryd.underlying3 h2
      obtain ⟨c, e3, g3, _⟩ := DataW.trod_int Tryd.underlying3 h3
      injection e0 with e0 _
      injection e1 with e1 _
      injection e2 with e2 _
      injection e3 with e3 _
      refine ⟨⟨k, s, l, c⟩, by rw [e0, e1, e2, e3]; rfl, ?_, hwf⟩
      rw [hx, g0, g1, g2, g3]
      rfl
theorem list_of {α : Type} {n : Nat} {P : Nat → α → Prop} : (∀ i, i < n → ∃ x, P i x) → ∃ l : List α, l.length = n ∧ ∀ i x, l[i]? = some x → P i x := by
  induction n with
  | zero => exact fun _ => ⟨[], rfl, fun i x h => by simp at h⟩
  | succ n ih =>
    intro h
    obtain ⟨l, hl, hp⟩ := ih fun i hi => h i (by omega)
    obtain ⟨y, hy⟩ := h n (by omega)
    refine ⟨l ++ [y], by simp [hl], fun i x hx => ?_⟩
    by_cases q : i < l.length
    · rw [List.getElem?_append_left q] at hx
      exact hp i x hx
    · rw [List.getElem?_append_right (by omega)] at hx
      have hi : i - l.length = 0 := by
        by_cases z : i - l.length = 0
        · exact z
        · rw [List.getElem?_eq_none (by simp; omega)] at hx
          cases hx
      rw [hi] at hx
      simp at hx
      subst hx
      obtain rfl : i = n := by omega
      exact hy
/-- What tokens weigh. -/
def weigh (l : List Tk) : Nat := (l.map fun t => t.text.size + 1).sum
theorem weigh_len (l : List Tk) : l.length ≤ weigh l := by
  unfold weigh
  induction l with
  | nil => exact Nat.le_refl _
  | cons t r ih =>
    rw [List.map_cons, List.sum_cons, List.length_cons]
    omega
theorem bulk_tok {H : Type} (t : Tk) : t.text.size + 1 ≤ Rows.uptoBulk (tkD t : DataW H) := by
  unfold tkD
  simp only [Rows.uptoBulk, Rows.uptoBulkAll]
  rw [Lib.size_eq]
  omega
theorem bulk_toks {H : Type} : ∀ (l : List Tk) (ds : List (DataW H)), ds = l.map tkD → weigh l ≤ Rows.uptoBulkAll ds
  | [], ds, h => by
    subst h
    exact Nat.zero_le _
  | t :: r, ds, h => by
    subst h
    have h1 := bulk_toks (H := H) r (r.map tkD) rfl
    have h2 := bulk_tok (H := H) t
    rw [List.map_cons]
    unfold weigh at h1 ⊢
    rw [List.map_cons, List.sum_cons]
    simp only [Rows.uptoBulkAll]
    omega
theorem open_toks {H : Type} {enc : TypeId × Value → H} {W : World} {base : Nat} {sp : Nat → Bool} {held : Bool} {fuel : Nat} {a0 : Option Addr} {len cap : Nat} {d : DataW H} {p : List MemPlace}
    (h : DataW.trod enc Tryd.prog W base sp held fuel 29 [.slice a0 len cap] = some (d, p)) (hlt : ∀ y ∈ p, y.block < W.heap.size) : ∃ l : List Tk, TkArg W (.slice a0 len cap) l ∧ weigh l ≤ Rows.uptoBulk d ∧ ∀ t ∈ l, (Lit.int .i64 t.line).wf = true := by
  rcases Deep.open_slice Tryd.underlying29 h with ⟨hcs, hx⟩ | ⟨a, len', cap', m, n, D, Pl, hcs, _, hl, _, hm, hx, hi⟩
  · injection hcs with hcs _
    injection hcs with h1 h2 h3
    subst h1 h2 h3
    exact ⟨[], .inl ⟨rfl, _, _, rfl⟩, Nat.zero_le _, fun t ht => by cases ht⟩
  · injection hcs with hcs _
    injection hcs with h1 h2 h3
    subst h1 h2 h3
    rw [cellsTok] at hi
    have hlm : len ≤ m := by rw [hm]; split <;> omega
    obtain ⟨l, hll, hp⟩ := list_of (n := len) (P := fun i (t : Tk) => D i = tkD t ∧ (∀ k, k < 4 → W.cell? (a.add (i * 4 + k)) = (tkC t)[k]?) ∧ (Lit.int .i64 t.line).wf = true) (by
      intro i hil
      obtain ⟨cs', hc, ht⟩ := hi i (by omega)
      obtain ⟨t, e1, e2, e3⟩ := read_tok ht
      obtain ⟨_, _, hat⟩ := World.cells?_some hc
      refine ⟨t, e2, fun k hk => ?_, e3⟩
      rw [← Deep.add_add, hat k hk, e1])
    refine ⟨l, ?_, ?_, fun t ht => ?_⟩
    · by_cases hl0 : len = 0
      · subst hl0
        obtain rfl : l = [] := List.eq_nil_of_length_eq_zero hll
        exact .inl ⟨rfl, _, _, rfl⟩
      · obtain ⟨t0, ht0⟩ : ∃ t, l[0]? = some t := ⟨_, List.getElem?_eq_getElem (by omega)⟩
        have hc0 := (hp 0 t0 ht0).2.1 0 (by omega)
        obtain ⟨b, off, spot⟩ := a
        have hspot : spot = none := by
          have : W.cell? ((⟨b, off, spot⟩ : Addr).add 0) = some (.int .i64 t0.kind) := by simpa [tkC] using hc0
          simpa [Addr.add] using World.cell?_spot this
        subst hspot
        have hbW : b < W.heap.size := by
          simp only [Prod.mk.injEq] at hx
          refine hlt (.cell b off) ?_
          rw [hx.2]
          exact List.mem_append_left _ (MemPlace.mem_row.2 ⟨0, by rw [cellsTok]; omega, by simp⟩)
        refine .inr ⟨b, off, cap, by rw [hll], hbW, fun i t ht k hk => ?_⟩
        have := (hp i t ht).2.1 k hk
        rw [← this]
        have e : (⟨b, off, none⟩ : Addr).add (i * 4 + k) = ⟨b, off + i * 4 + k, none⟩ := by
          rw [show off + i * 4 + k = off + (i * 4 + k) by omega]
          unfold Addr.add
          split <;> simp_all
        rw [e]
    · simp only [Prod.mk.injEq] at hx
      rw [hx.1]
      have e : (List.range len).map D = l.map tkD := by
        apply List.ext_getElem?
        intro i
        by_cases hil : i < len
        · obtain ⟨t, ht⟩ : ∃ t, l[i]? = some t := ⟨_, List.getElem?_eq_getElem (by omega)⟩
          rw [List.getElem?_map, List.getElem?_map, ht, List.getElem?_range hil]
          show some (D i) = some (tkD t)
          rw [(hp i t ht).1]
        · rw [List.getElem?_eq_none (by simp; omega), List.getElem?_eq_none (by simp; omega)]
      simp only [Rows.uptoBulk]
      have := bulk_toks (H := H) l _ e
      omega
    · obtain ⟨i, hi'⟩ := List.mem_iff_getElem?.1 ht
      exact (hp i t hi').2.2


/-! ### Rows of the call's own -/

def Own (w : World) (B : Nat) (v : Value) (l : List Tk) : Prop := w.ownsRow B 42 4 v l.length (l.flatMap tkC)
theorem Own.nil (w : World) (B : Nat) : Own w B (.slice none 0 0) [] := World.ownsRow_nil _ _ _ _
theorem Own.arg {w : World} {B : Nat} {v : Value} {l : List Tk} (h : Own w B v l) : TkArg w v l := own_arg h
theorem Own.below {w w' : World} {B C : Nat} {v : Value} {l : List Tk} (h : Own w B v l) (hb : Below C w w') (hC : w.heap.size ≤ C) : Own w' B v l := by
  have hg : w.grownBy w' none := ⟨hb.os, hb.tape, hb.output, hb.size, fun k hk _ => hb.block k (by omega)⟩
  rcases hv : v.ownBlock with _ | g
  · exact World.ownsRow.kept h hg (.inl hv)
  · exact World.ownsRow.kept h hg (.inr (by rw [hv]; simp))
/-- append of one token: the same block, or a new one. -/
theorem append_one (w : World) {ops : Array Oper} {rest : List Oper} {o : Oper} {a : Act} {Q : Exit → Act → World → Prop} (hg : o.guard = none) (sl x : Operand) (hop : o.op = Op.call { callee := Callee.builtin Builtin.append, args := #[sl, x], argTypes := #[29, 29] })
    (base : Nat) (v : Value) (l : List Tk) (hs : a.eval sl = v) (hown : Own w base v l) (ad : Addr) (t : Tk) (c : Nat) (hx : a.eval x = .slice (some ad) 1 c) (hc : ∀ (j : Nat) u, (tkC t)[j]? = some u → w.cell? (ad.add j) = some u) (b1 : l.length + 1 ≤ 3518437208880) (hB : base ≤ w.heap.size)
    (hK : ∀ v' w', Own w' base v' (l ++ [t]) → w.grownBy w' v.ownBlock → (v'.ownBlock = v.ownBlock ∨ v'.ownBlock = some w.heap.size) → wpList Tryd.prog ops Q rest (a.put o.dst v') w') :
    wpList Tryd.prog ops Q (o :: rest) a w := by
  obtain ⟨i0, hi, hz0, hz1, hz2⟩ := info_parts infoTok
  refine wpList_append_own_at w hg sl x 29 hop base 42 i0 _ 4 40 Tryd.underlying29 hi hz0 hz1 hz2 rfl (by decide) v l.length (l.flatMap tkC) hs hown ad 1 c (tkC t) hx rfl hc ?_ (by unfold maxLen; omega) (by omega) hB ?_
  · intro u hu
    simp only [tkC, List.mem_cons, List.not_mem_nil, or_false] at hu
    rcases hu with rfl | rfl | rfl | rfl <;> rfl
  · intro v' w' h1 h2 _ h4
    refine hK v' w' ?_ h2 h4
    unfold Own
    rw [List.length_append, List.flatMap_append]
    simpa using h1
theorem new_cell (w : World) (cs : Array Value) (t : TypeId) (k : Nat) : (w.alloc (.cells cs t)).cell? ⟨w.heap.size, k, none⟩ = cs[k]? := by
  rw [cell_of_row _ _ _ _ _ _ (heap_alloc_new w (.cells cs t))]
set_option maxRecDepth 100000 in
set_option maxHeartbeats 2000000 in
/-- The document's own SameAll at two slices that hold the same. -/
theorem sameall_any (va vb : Value) (l : List Tk) (w : World) (ha : TkArg w va l) (hb : TkArg w vb l) (hm : l.length ≤ 3518437208880) :
    Calls Tryd.prog 17 #[va, vb] w fun e w' => e = .returned (.bool true) ∧ Below w.heap.size w w' := by
  have HM := Lib.hid hm
  clear hm
  by_cases hL : l.length = 0
  · obtain ⟨a1, c1, rfl⟩ := ha.len
    obtain ⟨a2, c2, rfl⟩ := hb.len
    rw [hL]
    clear ha hb HM hL
    go_enter Tryd.func17, Tryd.ntmps17
    go_wp2_with fail
    go_loopw [5] (fun i wr => i = .int .i64 0 ∧ wr = w) (fun _ _ => 0)
    case atStart => exact ⟨rfl, rfl⟩
    case round =>
      obtain ⟨rfl, rfl⟩ := hrel
      go_wp2_with fail
      go_ret
      exact ⟨rfl, Below.refl _ _⟩
  · obtain ⟨ga, oa, ca, rfl, ha1, ha2⟩ := ha.cells hL
    obtain ⟨gb, ob, cb, rfl, hb1, hb2⟩ := hb.cells hL
    have HA : Hid (TkIn w ga oa l) := ⟨ha1, ha2⟩
    have HB : Hid (TkIn w gb ob l) := ⟨hb1, hb2⟩
    clear ha hb ha1 ha2 hb1 hb2
    go_enter Tryd.func17, Tryd.ntmps17
    go_wp2_with fail
    go_loopw [5] (fun i wr => ∃ (k n : Nat), i = .int .i64 (k : Int) ∧ wr = w.drewN n ∧ k ≤ l.length) (fun i _ => l.length - (intOf i).toNat)
    case atStart => exact ⟨0, 0, rfl, rfl, by omega⟩
    case round =>
      obtain ⟨k, n, rfl, rfl, hk⟩ := hrel
      by_cases hp : k < l.length
      · obtain ⟨t, ht⟩ : ∃ t, l[k]? = some t := ⟨_, List.getElem?_eq_getElem hp⟩
        obtain ⟨a0, a1, a2, a3⟩ := HA.out.four k t ht
        obtain ⟨b0, b1, b2, b3⟩ := HB.out.four k t ht
        have hw := idx_at k l.length hp HM.out
        have HW := Lib.hid hw
        clear ht hw
        have i0 : (0 : Int) ≤ (k : Int) := by omega
        have i1 : (k : Int) < (l.length : Int) := by omega
        go_wp2_with fail
        go_quiet (fail)
        go_wp2_with fail
        go_roundw
        case rel =>
          rw [HW.out]
          exact ⟨k + 1, _, by go_num, rfl, by omega⟩
        case measure =>
          rw [HW.out]
          simp [intOf]
          omega
      · go_wp2_with fail
        go_ret
        exact ⟨rfl, below_drewN (Below.refl _ _) n⟩
end Go.Proofs.YtmandanmndmnhaaDoor.Tks
