/-
  Rows of trees that a call owns, and where their kids lie. No program is run here.
-/
import Derived.Test.YtmandanmndmnhaaDoorTreTex
import Derived.Deep.AppendLies
namespace Go.Proofs.YtmandanmndmnhaaDoor.Tre
open Tks Go.RowKit
set_option linter.unusedSimpArgs false
set_option linter.unusedVariables false

theorem infoNd : (Tryd.prog.info? 24).map (fun i => (i.zero, i.size, i.bytes)) = some (some (.agg #[.int .i64 0, .int .i64 0, .string ⟨#[]⟩, .int .i64 0, .int .i64 0, .slice none 0 0]), 6, 72) := by kernel_rfl
/-- A tree of a row that the call owns: its head, its kids, and the slice that holds these. -/
structure Nv where
  h : Hd
  k : Fo
  v : Value
def ndC (x : Nv) : List Value := [.int .i64 x.h.kind, .int .i64 x.h.form, .string x.h.text, .int .i64 x.h.line, .int .i64 x.h.col, x.v]
theorem nd_len (x : Nv) : (ndC x).length = 6 := rfl
def foL : List Nv → Fo
  | [] => .nil
  | x :: r => .cons x.h x.k (foL r)
theorem len_foL : ∀ l : List Nv, len (foL l) = l.length
  | [] => rfl
  | x :: r => by
    show len (foL r) + 1 = r.length + 1
    rw [len_foL r]
def appF : Fo → Fo → Fo
  | .nil, g => g
  | .cons h k r, g => .cons h k (appF r g)
theorem appF_nil : ∀ f : Fo, appF f .nil = f
  | .nil => rfl
  | .cons h k r => by
    show Fo.cons h k (appF r .nil) = _
    rw [appF_nil r]
theorem appF_foL : ∀ (l : List Nv) (x : Nv) (g : Fo), appF (foL (l ++ [x])) g = appF (foL l) (.cons x.h x.k g)
  | [], x, g => rfl
  | y :: r, x, g => by
    show Fo.cons y.h y.k (appF (foL (r ++ [x])) g) = Fo.cons y.h y.k (appF (foL r) (.cons x.h x.k g))
    rw [appF_foL r x g]
/-- A row of trees lies there, all its kids in blocks of which P holds. -/
def FoOn (w : World) (P : Nat → Prop) : Fo → Nat → Nat → Prop
  | .nil, _, _ => True
  | .cons h k r, b, off =>
    (∃ vk, w.cell? ⟨b, off, none⟩ = some (.int .i64 h.kind) ∧ w.cell? ⟨b, off + 1, none⟩ = some (.int .i64 h.form) ∧ w.cell? ⟨b, off + 2, none⟩ = some (.string h.text) ∧ w.cell? ⟨b, off + 3, none⟩ = some (.int .i64 h.line) ∧ w.cell? ⟨b, off + 4, none⟩ = some (.int .i64 h.col) ∧ w.cell? ⟨b, off + 5, none⟩ = some vk ∧
      ((k = .nil ∧ ∃ a c, vk = .slice a 0 c) ∨ ∃ b2 off2 c, vk = .slice (some ⟨b2, off2, none⟩) (len k) c ∧ len k ≤ maxLen ∧ b2 < w.heap.size ∧ P b2 ∧ FoOn w P k b2 off2)) ∧
    FoOn w P r b (off + 6)
def KOn (w : World) (P : Nat → Prop) (v : Value) (k : Fo) : Prop :=
  (k = .nil ∧ ∃ a c, v = .slice a 0 c) ∨ ∃ b off c, v = .slice (some ⟨b, off, none⟩) (len k) c ∧ len k ≤ maxLen ∧ b < w.heap.size ∧ P b ∧ FoOn w P k b off
theorem FoOn.in {w : World} {P : Nat → Prop} : ∀ (f : Fo) (b off : Nat), FoOn w P f b off → FoIn w f b off
  | .nil, _, _, _ => trivial
  | .cons h k r, b, off, ⟨⟨vk, c0, c1, c2, c3, c4, c5, hk⟩, hr⟩ => by
    refine ⟨⟨vk, c0, c1, c2, c3, c4, c5, ?_⟩, FoOn.in r b (off + 6) hr⟩
    rcases hk with h1 | ⟨b2, off2, c, e, hm, h1, _, h2⟩
    · exact .inl h1
    · exact .inr ⟨b2, off2, c, e, hm, h1, FoOn.in k b2 off2 h2⟩
theorem KOn.arg {w : World} {P : Nat → Prop} {v : Value} {k : Fo} (h : KOn w P v k) : KArg w v k := by
  rcases h with h | ⟨b, off, c, e, hm, h1, _, h2⟩
  · exact .inl h
  · exact .inr ⟨b, off, c, e, hm, h1, h2.in⟩
theorem KOn.nil (w : World) (P : Nat → Prop) (a : Option Addr) (c : Nat) : KOn w P (.slice a 0 c) .nil := .inl ⟨rfl, a, c, rfl⟩
theorem FoOn.kept {w w' : World} {P P' : Nat → Prop} (hs : w.heap.size ≤ w'.heap.size) (hk : ∀ b, b < w.heap.size → P b → w'.heap[b]? = w.heap[b]? ∧ P' b) : ∀ (f : Fo) (b off : Nat), w'.heap[b]? = w.heap[b]? → FoOn w P f b off → FoOn w' P' f b off
  | .nil, _, _, _, _ => trivial
  | .cons h k r, b, off, hb, ⟨⟨vk, c0, c1, c2, c3, c4, c5, hq⟩, hr⟩ => by
    have hc : ∀ o, w'.cell? ⟨b, o, none⟩ = w.cell? ⟨b, o, none⟩ := fun o => World.cell?_of_block hb
    refine ⟨⟨vk, (hc _).trans c0, (hc _).trans c1, (hc _).trans c2, (hc _).trans c3, (hc _).trans c4, (hc _).trans c5, ?_⟩, FoOn.kept hs hk r b (off + 6) hb hr⟩
    rcases hq with h1 | ⟨b2, off2, c, e, hm, h1, hp, h2⟩
    · exact .inl h1
    · exact .inr ⟨b2, off2, c, e, hm, Nat.lt_of_lt_of_le h1 hs, (hk b2 h1 hp).2, FoOn.kept hs hk k b2 off2 (hk b2 h1 hp).1 h2⟩
theorem KOn.kept {w w' : World} {P P' : Nat → Prop} {v : Value} {k : Fo} (h : KOn w P v k) (hs : w.heap.size ≤ w'.heap.size) (hk : ∀ b, b < w.heap.size → P b → w'.heap[b]? = w.heap[b]? ∧ P' b) : KOn w' P' v k := by
  rcases h with h | ⟨b, off, c, e, hm, h1, hp, h2⟩
  · exact .inl h
  · exact .inr ⟨b, off, c, e, hm, Nat.lt_of_lt_of_le h1 hs, (hk b h1 hp).2, FoOn.kept hs hk k b off (hk b h1 hp).1 h2⟩
theorem KOn.below {w w' : World} {P : Nat → Prop} {v : Value} {k : Fo} {B : Nat} (h : KOn w P v k) (hb : Below B w w') (hB : w.heap.size ≤ B) : KOn w' P v k :=
  h.kept hb.size (fun b hlt hp => ⟨hb.block b (Nat.lt_of_lt_of_le hlt hB), hp⟩)
theorem KOn.less {w : World} {P P' : Nat → Prop} {v : Value} {k : Fo} (h : KOn w P v k) (hp : ∀ b, P b → P' b) : KOn w P' v k := h.kept (Nat.le_refl _) (fun b _ q => ⟨rfl, hp b q⟩)
theorem KOn.one {w : World} {P : Nat → Prop} {v : Value} {k : Fo} (h : KOn w P v k) : v.oneCell' = true := by
  rcases h with ⟨_, a, c, rfl⟩ | ⟨b, off, c, rfl, _⟩ <;> rfl
theorem KOn.len {w : World} {P : Nat → Prop} {v : Value} {k : Fo} (h : KOn w P v k) : ∃ a c, v = .slice a (len k) c := h.arg.len
/-- A row of trees of the call's own; the kids lie in other blocks of its own. -/
structure NdOwn (w : World) (B : Nat) (v : Value) (l : List Nv) : Prop where
  row : w.ownsRow B 24 6 v l.length (l.flatMap ndC)
  kid : ∀ x ∈ l, KOn w (fun b => B ≤ b ∧ v.ownBlock ≠ some b) x.v x.k
theorem NdOwn.nil (w : World) (B : Nat) : NdOwn w B (.slice none 0 0) [] := ⟨World.ownsRow_nil _ _ _ _, fun x hx => by cases hx⟩
theorem NdOwn.slice {w : World} {B : Nat} {v : Value} {l : List Nv} (h : NdOwn w B v l) : ∃ a c, v = .slice a l.length c := own_len h.row
theorem NdOwn.below {w w' : World} {B C : Nat} {v : Value} {l : List Nv} (h : NdOwn w B v l) (hb : Below C w w') (hC : w.heap.size ≤ C) : NdOwn w' B v l := by
  have hg : w.grownBy w' none := ⟨hb.os, hb.tape, hb.output, hb.size, fun k hk _ => hb.block k (by omega)⟩
  refine ⟨?_, fun x hx => (h.kid x hx).below hb hC⟩
  rcases hv : v.ownBlock with _ | g
  · exact World.ownsRow.kept h.row hg (.inl hv)
  · exact World.ownsRow.kept h.row hg (.inr (by rw [hv]; simp))
theorem NdOwn.push {w w' : World} {B : Nat} {v v' : Value} {l : List Nv} {x : Nv} (h : NdOwn w B v l) (hx : KOn w (fun b => B ≤ b ∧ v.ownBlock ≠ some b) x.v x.k)
    (hn : w'.ownsRow B 24 6 v' (l.length + 1) (l.flatMap ndC ++ ndC x)) (hg : w.grownBy w' v.ownBlock) (ha : v'.ownBlock = v.ownBlock ∨ v'.ownBlock = some w.heap.size) : NdOwn w' B v' (l ++ [x]) := by
  refine ⟨by rw [List.length_append, List.flatMap_append]; simpa using hn, fun y hy => ?_⟩
  have hy2 : KOn w (fun b => B ≤ b ∧ v.ownBlock ≠ some b) y.v y.k := by
    rcases List.mem_append.1 hy with hy | hy
    · exact h.kid y hy
    · obtain rfl : y = x := by simpa using hy
      exact hx
  refine hy2.kept hg.size (fun b hlt hp => ⟨hg.block b hlt (fun e => hp.2 e.symm), hp.1, fun e => ?_⟩)
  rcases ha with q | q
  · exact hp.2 (q ▸ e)
  · rw [q] at e
    injection e with e
    omega
theorem fo_cells {w : World} {P : Nat → Prop} {b : Nat} : ∀ (l : List Nv) (off : Nat), (∀ (i : Nat) (x : Nv), l[i]? = some x → ∀ k : Nat, k < 6 → w.cell? ⟨b, off + i * 6 + k, none⟩ = (ndC x)[k]?) → (∀ x ∈ l, KOn w P x.v x.k) → FoOn w P (foL l) b off
  | [], _, _, _ => trivial
  | x :: r, off, hc, hk => by
    have h0 := hc 0 x rfl
    simp only [Nat.zero_mul, Nat.add_zero] at h0
    refine ⟨⟨x.v, h0 0 (by omega), h0 1 (by omega), h0 2 (by omega), h0 3 (by omega), h0 4 (by omega), h0 5 (by omega), hk x (List.mem_cons_self ..)⟩, fo_cells r (off + 6) (fun i y hy k hk6 => ?_) (fun y hy => hk y (List.mem_cons_of_mem _ hy))⟩
    have := hc (i + 1) y hy k hk6
    rw [show off + 6 + i * 6 + k = off + (i + 1) * 6 + k from by omega]
    exact this
theorem NdOwn.on {w : World} {B : Nat} {v : Value} {l : List Nv} (h : NdOwn w B v l) (hm : l.length ≤ maxLen) : KOn w (fun b => B ≤ b) v (foL l) := by
  have hr := h.row
  rcases hr.2 with ⟨rfl, h0⟩ | ⟨g, cap, cur, rfl, hb, hg, _⟩
  · obtain rfl : l = [] := List.eq_nil_of_length_eq_zero h0
    exact .inl ⟨rfl, _, _, rfl⟩
  · refine .inr ⟨g, 0, cap, by rw [len_foL], by rw [len_foL]; exact hm, lt_of_block hg, hb, fo_cells l 0 (fun i x hx k hk => ?_) (fun x hx => (h.kid x hx).less (fun b hp => hp.1))⟩
    have h0 := flat_at ndC 6 nd_len l i k x hx hk
    obtain ⟨u, hu⟩ : ∃ u, (ndC x)[k]? = some u := ⟨_, List.getElem?_eq_getElem (by rw [nd_len]; exact hk)⟩
    rw [hu] at h0 ⊢
    have := World.ownsRow.cells hr (g := g) rfl _ _ h0
    rw [add_plain] at this
    rw [Nat.zero_add]
    exact this
theorem ndC_one {w : World} {P : Nat → Prop} {x : Nv} (h : KOn w P x.v x.k) : ∀ u ∈ ndC x, u.oneCell' = true := by
  intro u hu
  simp only [ndC, List.mem_cons, List.not_mem_nil, or_false] at hu
  rcases hu with rfl | rfl | rfl | rfl | rfl | rfl <;> first | rfl | exact h.one
/-- append of one tree: the same block, or a new one. -/
theorem append_nd (w : World) {ops : Array Oper} {rest : List Oper} {o : Oper} {a : Act} {Q : Exit → Act → World → Prop} (hg : o.guard = none) (sl x : Operand) (hop : o.op = Op.call { callee := Callee.builtin Builtin.append, args := #[sl, x], argTypes := #[22, 22] })
    (base : Nat) (v : Value) (l : List Nv) (hs : a.eval sl = v) (hown : NdOwn w base v l) (ad : Addr) (t : Nv) (c : Nat) (hx : a.eval x = .slice (some ad) 1 c) (hc : ∀ (j : Nat) u, (ndC t)[j]? = some u → w.cell? (ad.add j) = some u) (ht : KOn w (fun b => base ≤ b ∧ v.ownBlock ≠ some b) t.v t.k) (b1 : l.length + 1 ≤ 1099511627776) (hB : base ≤ w.heap.size)
    (hK : ∀ v' w', NdOwn w' base v' (l ++ [t]) → w.grownBy w' v.ownBlock → (v'.ownBlock = v.ownBlock ∨ v'.ownBlock = some w.heap.size) → wpList Tryd.prog ops Q rest (a.put o.dst v') w') :
    wpList Tryd.prog ops Q (o :: rest) a w := by
  obtain ⟨i0, hi, hz0, hz1, hz2⟩ := info_parts infoNd
  refine wpList_append_own_at w hg sl x 22 hop base 24 i0 _ 6 72 Tryd.underlying22 hi hz0 hz1 hz2 rfl (by decide) v l.length (l.flatMap ndC) hs hown.row ad 1 c (ndC t) hx rfl hc (ndC_one ht) (by unfold maxLen; omega) (by omega) hB ?_
  intro v' w' h1 h2 _ h4
  exact hK v' w' (hown.push ht h1 h2 h4) h2 h4
/-- The same, within a region that draws. -/
theorem step_nd (w : World) {ops : Array Oper} {o : Oper} {a : Act} {K : Act → World → Prop} {Q : Exit → Act → World → Prop} {E : Prop} (hg : o.guard = none) (sl x : Operand) (hop : o.op = Op.call { callee := Callee.builtin Builtin.append, args := #[sl, x], argTypes := #[22, 22] })
    (base : Nat) (v : Value) (l : List Nv) (hs : a.eval sl = v) (hown : NdOwn w base v l) (ad : Addr) (t : Nv) (c : Nat) (hx : a.eval x = .slice (some ad) 1 c) (hc : ∀ (j : Nat) u, (ndC t)[j]? = some u → w.cell? (ad.add j) = some u) (ht : KOn w (fun b => base ≤ b ∧ v.ownBlock ≠ some b) t.v t.k) (b1 : l.length + 1 ≤ 1099511627776) (hB : base ≤ w.heap.size)
    (hK : ∀ h cap w', NdOwn w' base (.slice (some ⟨h, 0, none⟩) (l.length + 1) cap) (l ++ [t]) → w.grownBy w' v.ownBlock → (v.ownBlock = some h ∨ h = w.heap.size) → K (a.put o.dst (.slice (some ⟨h, 0, none⟩) (l.length + 1) cap)) w') :
    if Region.wanted o (yielded ops a.tmps) = true then Oper.wp Tryd.prog o a w K Q else E := by
  obtain ⟨i0, hi, hz0, hz1, hz2⟩ := info_parts infoNd
  refine step_append_lies w hg sl x 22 hop base 24 i0 _ 6 72 Tryd.underlying22 hi hz0 hz1 hz2 rfl (by decide) v l.length (l.flatMap ndC) hs hown.row ad 1 c (ndC t) hx rfl hc (ndC_one ht) (by decide) (by unfold maxLen; omega) (by omega) hB w.heap.size rfl ?_
  intro h cap w' h1 h2 h3 _
  refine hK h cap w' (hown.push ht h1 h2 ?_) h2 h3
  rcases h3 with q | q
  · exact .inl q.symm
  · right
    rw [q]
    rfl
/-- What is read of the kids, behind those that were read. -/
def behind (a : Fo) (r : Except Int (Fo × List UInt8)) : Except Int (Fo × List UInt8) :=
  match r with
  | .error e => .error e
  | .ok (fo, q) => .ok (appF a fo, q)
theorem behind_nil (r : Except Int (Fo × List UInt8)) : behind .nil r = r := by
  unfold behind
  cases r with
  | error e => rfl
  | ok p => rfl
theorem readT_ks (deep : Nat) (l : List UInt8) : readT deep l = nodeR (readKs (deep + 1)) deep l :=
  node_congr deep l (fun q hq => read_fuel _ _ _ q (by omega) (by omega))
theorem behind_kid {deep : Nat} {l : List UInt8} {a : List Nv} {x : Nv} {q : List UInt8} (h32 : l.head? = some (byte 32)) (hx : readT deep (l.drop 1) = .ok (x.h, x.k, q)) : behind (foL a) (readKs deep l) = behind (foL (a ++ [x])) (readKs deep q) := by
  rw [readKs_step deep l, if_pos h32, hx]
  dsimp only
  cases readKs deep q with
  | error e => rfl
  | ok p =>
    obtain ⟨fo, q2⟩ := p
    show Except.ok (appF (foL a) (.cons x.h x.k fo), q2) = Except.ok (appF (foL (a ++ [x])) fo, q2)
    rw [appF_foL]
theorem behind_bad {deep : Nat} {l : List UInt8} {a : Fo} {e : Int} (h32 : l.head? = some (byte 32)) (hx : readT deep (l.drop 1) = .error e) : behind a (readKs deep l) = .error e := by
  rw [readKs_step deep l, if_pos h32, hx]
  rfl
theorem behind_end {deep : Nat} {l : List UInt8} {a : Fo} (h32 : l.head? ≠ some (byte 32)) : behind a (readKs deep l) = .ok (a, l) := by
  rw [readKs_step deep l, if_neg h32]
  show Except.ok (appF a .nil, l) = _
  rw [appF_nil]
theorem readT_short {deep : Nat} {l q : List UInt8} {h : Hd} {k : Fo} (hh : readT deep l = .ok (h, k, q)) : q.length < l.length :=
  node_short (fun l k q hq => again_kids _ _ l q k hq) hh
end Go.Proofs.YtmandanmndmnhaaDoor.Tre
