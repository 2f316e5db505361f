/-
  The contracts of the document's own Spell and Same, the walk of the law LexSpells, and what is read of an argument that is a slice of tokens. Conditions: what is spelt is at most 2^21 bytes long; the program's list of names stands.
-/
import Derived.Test.YtkehchajgdepaaaGreatDoorZLexB
import Derived.Test.YtkehchajgdepaaaGreatDoorZLexBck
import Derived.Deep.Slices
import Derived.Deep.Fields
import Derived.ChangeSame
namespace Go.Proofs.YtkehchajgdepaaaGreatDoor.Lx
open Go.RowKit Gly
set_option linter.unusedSimpArgs false
set_option linter.unusedVariables false

/-! ### An argument that is a slice of tokens -/

theorem cellsTok : Tryz.prog.cellsOf 36 = 4 := by kernel_rfl
theorem cellsIntT : Tryz.prog.cellsOf 3 = 1 := by kernel_rfl
theorem cellsStrT : Tryz.prog.cellsOf 9 = 1 := by kernel_rfl
def tkD {H : Type} (t : Tk) : DataW H := .agg [.lit (.int .i64 t.kind), .lit (.string t.text.data.toList), .lit (.int .i64 t.line), .lit (.int .i64 t.col)]
set_option maxRecDepth 1000000 in
theorem read_tok {H : Type} {enc : TypeId × Value → H} {w : World} {base : Nat} {sp : Nat → Bool} {held : Bool} {n : Nat} {cs : List Value} {x : DataW H × List MemPlace} (h : DataW.trod enc Tryz.prog w base sp held n 36 cs = some x) :
    ∃ t : Tk, cs = tkC t ∧ x.1 = tkD t := by
  obtain ⟨xs, m, _, hx, hlen, hxl, hf⟩ := DataW.trod_struct Tryz.underlying36 h
  rw [cellsTok] at hlen
  have h0 := hf 0 _ rfl
  have h1 := hf 1 _ rfl
  have h2 := hf 2 _ rfl
  have h3 := hf 3 _ rfl
  match cs, hlen with
  | [c0, c1, c2, c3], _ =>
    match xs, hxl with
    | [y0, y1, y2, y3], _ =>
      simp only [cellsIntT, cellsStrT, List.drop_zero, List.drop_succ_cons, List.take_succ_cons, List.take_zero, List.getElem?_cons_zero, List.getElem?_cons_succ] at h0 h1 h2 h3
      obtain ⟨k, e0, g0, _⟩ := DataW.trod_int Tryz.underlying3 h0
      obtain ⟨s, e1, g1, _⟩ := DataW.trod_string Tryz.underlying9 h1
      obtain ⟨l, e2, g2, _⟩ := DataW.trod_int Tryz.underlying3 h2
      obtain ⟨c, e3, g3, _⟩ := DataW.trod_int Tryz.underlying3 h3
      injection e0 with e0 _
      injection e1 with e1 _
      injection e2 with e2 _
      injection e3 with e3 _
      refine ⟨⟨k, s, l, c⟩, by rw [e0, e1, e2, e3]; rfl, ?_⟩
      rw [hx, g0, g1, g2, g3]
      rfl
theorem list_of {α : Type} {n : Nat} {P : Nat → α → Prop} : (∀ i, i < n → ∃ x, P i x) → ∃ l : List α, l.length = n ∧ ∀ i x, l[i]? = some x → P i x := by
  induction n with
  | zero => exact fun _ => ⟨[], rfl, fun i x h => by simp at h⟩
  | succ n ih =>
    intro h
    obtain ⟨l, hl, hp⟩ := ih fun i hi => h i (by omega)
    obtain ⟨y, hy⟩ := h n (by omega)
    refine ⟨l ++ [y], by simp [hl], fun i x hx => ?_⟩
    by_cases q : i < l.length
    · rw [List.getElem?_append_left q] at hx
      exact hp i x hx
    · rw [List.getElem?_append_right (by omega)] at hx
      have hi : i - l.length = 0 := by
        by_cases z : i - l.length = 0
        · exact z
        · rw [List.getElem?_eq_none (by simp; omega)] at hx
          cases hx
      rw [hi] at hx
      simp at hx
      subst hx
      obtain rfl : i = n := by omega
      exact hy
/-- What tokens weigh. -/
def weigh (l : List Tk) : Nat := (l.map fun t => t.text.size + 1).sum
theorem weigh_len (l : List Tk) : l.length ≤ weigh l := by
  unfold weigh
  induction l with
  | nil => exact Nat.le_refl _
  | cons t r ih =>
    rw [List.map_cons, List.sum_cons, List.length_cons]
    omega
theorem bulk_tok {H : Type} (t : Tk) : t.text.size + 1 ≤ Rows.uptoBulk (tkD t : DataW H) := by
  unfold tkD
  simp only [Rows.uptoBulk, Rows.uptoBulkAll]
  rw [Lib.size_eq]
  omega
theorem bulk_toks {H : Type} : ∀ (l : List Tk) (ds : List (DataW H)), ds = l.map tkD → weigh l ≤ Rows.uptoBulkAll ds
  | [], ds, h => by
    subst h
    exact Nat.zero_le _
  | t :: r, ds, h => by
    subst h
    have h1 := bulk_toks (H := H) r (r.map tkD) rfl
    have h2 := bulk_tok (H := H) t
    rw [List.map_cons]
    unfold weigh at h1 ⊢
    rw [List.map_cons, List.sum_cons]
    simp only [Rows.uptoBulkAll]
    omega
theorem open_toks {H : Type} {enc : TypeId × Value → H} {W : World} {base : Nat} {sp : Nat → Bool} {held : Bool} {fuel : Nat} {a0 : Option Addr} {len cap : Nat} {d : DataW H} {p : List MemPlace}
    (h : DataW.trod enc Tryz.prog W base sp held fuel 23 [.slice a0 len cap] = some (d, p)) (hlt : ∀ y ∈ p, y.block < W.heap.size) : ∃ l : List Tk, TkArg W (.slice a0 len cap) l ∧ weigh l ≤ Rows.uptoBulk d := by
  rcases Deep.open_slice Tryz.underlying23 h with ⟨hcs, hx⟩ | ⟨a, len', cap', m, n, D, Pl, hcs, _, hl, _, hm, hx, hi⟩
  · injection hcs with hcs _
    injection hcs with h1 h2 h3
    subst h1 h2 h3
    exact ⟨[], .inl ⟨rfl, _, _, rfl⟩, Nat.zero_le _⟩
  · injection hcs with hcs _
    injection hcs with h1 h2 h3
    subst h1 h2 h3
    rw [cellsTok] at hi
    have hlm : len ≤ m := by rw [hm]; split <;> omega
    obtain ⟨l, hll, hp⟩ := list_of (n := len) (P := fun i (t : Tk) => D i = tkD t ∧ ∀ k, k < 4 → W.cell? (a.add (i * 4 + k)) = (tkC t)[k]?) (by
      intro i hil
      obtain ⟨cs', hc, ht⟩ := hi i (by omega)
      obtain ⟨t, e1, e2⟩ := read_tok ht
      obtain ⟨_, _, hat⟩ := World.cells?_some hc
      refine ⟨t, e2, fun k hk => ?_⟩
      rw [← Deep.add_add, hat k hk, e1])
    refine ⟨l, ?_, ?_⟩
    · by_cases hl0 : len = 0
      · subst hl0
        obtain rfl : l = [] := List.eq_nil_of_length_eq_zero hll
        exact .inl ⟨rfl, _, _, rfl⟩
      · obtain ⟨t0, ht0⟩ : ∃ t, l[0]? = some t := ⟨_, List.getElem?_eq_getElem (by omega)⟩
        have hc0 := (hp 0 t0 ht0).2 0 (by omega)
        obtain ⟨b, off, spot⟩ := a
        have hspot : spot = none := by
          have : W.cell? ((⟨b, off, spot⟩ : Addr).add 0) = some (.int .i64 t0.kind) := by simpa [tkC] using hc0
          simpa [Addr.add] using World.cell?_spot this
        subst hspot
        have hbW : b < W.heap.size := by
          simp only [Prod.mk.injEq] at hx
          refine hlt (.cell b off) ?_
          rw [hx.2]
          exact List.mem_append_left _ (MemPlace.mem_row.2 ⟨0, by rw [cellsTok]; omega, by simp⟩)
        refine .inr ⟨b, off, cap, by rw [hll], hbW, fun i t ht k hk => ?_⟩
        have := (hp i t ht).2 k hk
        rw [← this]
        have e : (⟨b, off, none⟩ : Addr).add (i * 4 + k) = ⟨b, off + i * 4 + k, none⟩ := by
          rw [show off + i * 4 + k = off + (i * 4 + k) by omega]
          unfold Addr.add
          split <;> simp_all
        rw [e]
    · simp only [Prod.mk.injEq] at hx
      rw [hx.1]
      have e : (List.range len).map D = l.map tkD := by
        apply List.ext_getElem?
        intro i
        by_cases hil : i < len
        · obtain ⟨t, ht⟩ : ∃ t, l[i]? = some t := ⟨_, List.getElem?_eq_getElem (by omega)⟩
          rw [List.getElem?_map, List.getElem?_map, ht, List.getElem?_range hil]
          show some (D i) = some (tkD t)
          rw [(hp i t ht).1]
        · rw [List.getElem?_eq_none (by simp; omega), List.getElem?_eq_none (by simp; omega)]
      simp only [Rows.uptoBulk]
      have := bulk_toks (H := H) l _ e
      omega

/-! ### The document's own Spell and Same -/

def joinK (l : List Tk) : List UInt8 := Lib.join (l.map fun t => t.text.data.toList) [32]
theorem joinK_le (l : List Tk) : (joinK l).length ≤ weigh l := by
  unfold joinK
  cases l with
  | nil => exact Nat.zero_le _
  | cons t r =>
    rw [List.map_cons, Lib.join_cons, List.length_append]
    have key : ∀ r : List Tk, (Lib.joinTail [32] (r.map fun t => t.text.data.toList)).length = weigh r := by
      intro r
      induction r with
      | nil => rfl
      | cons u r ih =>
        unfold Lib.joinTail weigh at ih ⊢
        simp only [List.map_cons, List.flatten_cons, List.length_append, List.sum_cons, List.length_cons, List.length_nil]
        rw [ih, ← Lib.size_eq]
        omega
    rw [key, ← Lib.size_eq]
    unfold weigh
    rw [List.map_cons, List.sum_cons]
    omega
theorem joinK_snoc (l : List Tk) (t : Tk) : joinK (l ++ [t]) = if l = [] then t.text.data.toList else joinK l ++ 32 :: t.text.data.toList := by
  unfold joinK
  cases l with
  | nil =>
    rw [if_pos rfl, List.nil_append, List.map_cons, List.map_nil, Lib.join_one]
  | cons u r =>
    rw [if_neg (by simp), List.cons_append, List.map_cons, List.map_cons, Lib.join_cons, Lib.join_cons]
    unfold Lib.joinTail
    simp
theorem weigh_take (l : List Tk) (k : Nat) : weigh (l.take k) ≤ weigh l := by
  have : weigh l = weigh (l.take k) + weigh (l.drop k) := by
    unfold weigh
    rw [← List.sum_append_nat, ← List.map_append, List.take_append_drop]
  omega
theorem take_snoc (l : List Tk) (k : Nat) (t : Tk) (h : l[k]? = some t) : l.take (k + 1) = l.take k ++ [t] := by
  rw [List.take_add_one, h]
  rfl
theorem weigh_at (l : List Tk) (k : Nat) (t : Tk) (h : l[k]? = some t) : t.text.size ≤ weigh l := by
  have h1 := weigh_take l (k + 1)
  rw [take_snoc l k t h] at h1
  unfold weigh at h1 ⊢
  rw [List.map_append, List.sum_append_nat] at h1
  simp at h1
  omega
set_option maxHeartbeats 4000000 in
theorem refspell_any (v : Value) (l : List Tk) (w : World) (h : TkArg w v l) (hb : weigh l ≤ 2097152) :
    Calls Tryz.prog 14 #[v] w fun e w' => e = .returned (.string (spellT l)) ∧ Below w.heap.size w w' := by
  have hlen := weigh_len l
  have HB := Lib.hid hb
  have HR : Hid ((⟨(joinK l).toArray⟩ : ByteArray) = spellT l) := rfl
  obtain ⟨va, vc, rfl⟩ := h.len
  have H := Lib.hid h
  have HL : Hid (l.length ≤ 1099511627776) := by unfold Hid; omega
  clear h hb hlen
  go_enter Tryz.func14, Tryz.ntmps14
  go_wp2_with fail
  go_loopw [3, 4] (fun x i wr => ∃ (k n : Nat) (y : ByteArray), x = .string y ∧ i = .int .i64 (k : Int) ∧ wr = w.drewN n ∧ k ≤ l.length ∧ y.data.toList = joinK (l.take k)) (fun _ i _ => l.length - (intOf i).toNat)
  case atStart => exact ⟨0, 0, _, rfl, rfl, rfl, Nat.zero_le _, rfl⟩
  case round =>
    obtain ⟨k, n, y, rfl, rfl, rfl, hk, hy⟩ := hrel
    have HY := Lib.hid hy
    have hys : y.size ≤ 2097152 := by
      rw [Lib.size_eq, hy]
      exact Nat.le_trans (joinK_le _) (Nat.le_trans (weigh_take l k) HB.out)
    clear hy
    by_cases hp : k < l.length
    · obtain ⟨b, off, c', hv, hlt, hc⟩ := H.out.cells (by omega)
      injection hv with h1 h2 h3
      subst h1
      obtain ⟨t, ht⟩ : ∃ t, l[k]? = some t := ⟨_, List.getElem?_eq_getElem hp⟩
      have HIN : Hid (TkIn w b off l) := ⟨hlt, hc⟩
      obtain ⟨x0, x1, x2, x3⟩ := HIN.out.four k t ht
      have hts : t.text.size ≤ 2097152 := Nat.le_trans (weigh_at l k t ht) HB.out
      have hw := idx_at k l.length hp HL.out
      have HWW := Lib.hid hw
      have i2 : (0 : Int) ≤ (k : Int) := by omega
      have i3 : (k : Int) < (l.length : Int) := by omega
      have hj := joinK_snoc (l.take k) t
      rw [← take_snoc l k t ht] at hj
      by_cases hk0 : k = 0
      · subst hk0
        have HJ : Hid (joinK (l.take 1) = t.text.data.toList) := hj
        have HY0 : Hid (y.data.toList = []) := HY.out
        clear h2 h3 ht hw hlt hc hj
        go_wp2_with fail
        go_roundw
        case rel =>
          refine ⟨1, n, _, rfl, by go_num, rfl, by omega, ?_⟩
          rw [HJ.out]
          simp [HY0.out]
        case measure =>
          simp [intOf]
          omega
      · have HJ : Hid (joinK (l.take (k + 1)) = y.data.toList ++ 32 :: t.text.data.toList) := by
          unfold Hid
          rw [hj, if_neg, HY.out]
          intro e
          have := congrArg List.length e
          rw [List.length_take, List.length_nil] at this
          omega
        have q1 : decide ((0 : Int) < (k : Int)) = true := decide_eq_true (by omega)
        have q2 : decide (0 < k) = true := decide_eq_true (by omega)
        clear h2 h3 ht hw hlt hc hj hk0
        go_wp2_with fail
        go_roundw
        case rel =>
          rw [HWW.out]
          refine ⟨k + 1, n, _, rfl, by go_num, rfl, by omega, ?_⟩
          rw [HJ.out]
          simp
        case measure =>
          rw [HWW.out]
          simp [intOf]
          omega
    · have hk2 : k = l.length := by omega
      subst hk2
      have he : y = spellT l := by
        rw [← HR.out]
        have e := HY.out
        rw [List.take_length] at e
        rw [← e]
      have HE := Lib.hid he
      clear he
      go_wp2_with fail
      go_ret
      exact ⟨by rw [HE.out]; rfl, Plc.below_drewN (Below.refl _ _) n⟩
set_option maxRecDepth 1000000 in
set_option maxHeartbeats 4000000 in
theorem refsame_any (va vb : Value) (la lb : List Tk) (w : World) (ha : TkArg w va la) (hb : TkArg w vb lb) (hm : la.length ≤ 1099511627776) :
    Calls Tryz.prog 16 #[va, vb] w fun e w' => e = .returned (.bool (sameT la lb)) ∧ Below w.heap.size w w' := by
  by_cases hl : la.length = lb.length
  · obtain ⟨a1, c1, rfl⟩ := ha.len
    obtain ⟨a2, c2, rfl⟩ := hb.len
    rw [← hl]
    have HL := Lib.hid hl
    have HM := Lib.hid hm
    have HA : Hid (la.length ≠ 0 → ∃ b off, a1 = some ⟨b, off, none⟩ ∧ TkIn w b off la) := fun h0 => by
      obtain ⟨b, off, c, hv, h1, h2⟩ := ha.cells h0
      injection hv with e1 e2 e3
      exact ⟨b, off, e1, h1, h2⟩
    have HB : Hid (la.length ≠ 0 → ∃ b off, a2 = some ⟨b, off, none⟩ ∧ TkIn w b off lb) := fun h0 => by
      obtain ⟨b, off, c, hv, h1, h2⟩ := hb.cells (by omega)
      injection hv with e1 e2 e3
      exact ⟨b, off, e1, h1, h2⟩
    obtain ⟨X, hX⟩ : ∃ X, X = sameT la lb := ⟨_, rfl⟩
    rw [← hX]
    have HX := Lib.hid hX
    clear ha hb hl hm hX
    go_enter Tryz.func16, Tryz.ntmps16
    go_wp2_with fail
    go_loopw [5] (fun i wr => ∃ (k n : Nat), i = .int .i64 (k : Int) ∧ wr = w.drewN n ∧ k ≤ la.length ∧ ∀ (j : Nat) t u, j < k → la[j]? = some t → lb[j]? = some u → sm t u = true) (fun i _ => la.length - (intOf i).toNat)
    case atStart => exact ⟨0, 0, rfl, rfl, by omega, fun j t u hj => absurd hj (by omega)⟩
    case round =>
      obtain ⟨k, n, rfl, rfl, hk, hsm⟩ := hrel
      have HSM := Lib.hid hsm
      clear hsm
      by_cases hp : k < la.length
      · obtain ⟨b1, o1, rfl, hi1⟩ := HA.out (by omega)
        obtain ⟨b2, o2, rfl, hi2⟩ := HB.out (by omega)
        obtain ⟨t, ht⟩ : ∃ t, la[k]? = some t := ⟨_, List.getElem?_eq_getElem hp⟩
        obtain ⟨u, hu⟩ : ∃ u, lb[k]? = some u := ⟨_, List.getElem?_eq_getElem (by have := HL.out; omega)⟩
        obtain ⟨x0, x1, x2, x3⟩ := hi1.four k t ht
        obtain ⟨y0, y1, y2, y3⟩ := hi2.four k u hu
        have HT := Lib.hid ht
        have HU := Lib.hid hu
        have hw := idx_at k la.length hp HM.out
        have HW := Lib.hid hw
        have i2 : (0 : Int) ≤ (k : Int) := by omega
        have i3 : (k : Int) < (la.length : Int) := by omega
        clear ht hu hw hi1 hi2
        have HS : Hid (sm t u = (t.kind == u.kind && t.text.data.toList == u.text.data.toList)) := rfl
        by_cases e1 : t.kind = u.kind
        · have d1 : (t.kind != u.kind) = false := by rw [bne_eq_false_iff_eq]; exact e1
          by_cases e2 : t.text.data.toList = u.text.data.toList
          · have d2 : (t.text.data.toList == u.text.data.toList) = true := by rw [beq_iff_eq]; exact e2
            have d3 : (t.text.data.toList != u.text.data.toList) = false := by rw [bne_eq_false_iff_eq]; exact e2
            have d4 : (t.text.toList == u.text.toList) = true := by rw [Lib.toList_data, Lib.toList_data]; exact d2
            have HR : Hid (sm t u = true) := by unfold Hid; rw [HS.out, beq_iff_eq.2 e1, d2]; rfl
            clear e1 e2
            go_wp2_with fail
            go_quiet (fail)
            go_wp2_with fail
            go_roundw
            case rel =>
              rw [HW.out]
              refine ⟨k + 1, _, by go_num, rfl, by omega, fun j t' u' hj h1 h2 => ?_⟩
              by_cases q : j < k
              · exact HSM.out j t' u' q h1 h2
              · obtain rfl : j = k := by omega
                rw [HT.out] at h1
                rw [HU.out] at h2
                injection h1 with h1
                injection h2 with h2
                subst h1 h2
                exact HR.out
            case measure =>
              rw [HW.out]
              simp [intOf]
              omega
          · have d2 : (t.text.data.toList == u.text.data.toList) = false := by rw [beq_eq_false_iff_ne]; exact e2
            have d3 : (t.text.data.toList != u.text.data.toList) = true := by rw [bne_iff_ne]; exact e2
            have d4 : (t.text.toList == u.text.toList) = false := by rw [Lib.toList_data, Lib.toList_data]; exact d2
            have HR : Hid (sm t u = false) := by unfold Hid; rw [HS.out, d2, Bool.and_false]
            clear e1 e2
            go_wp2_with fail
            go_quiet (fail)
            go_wp2_with fail
            go_ret
            exact ⟨by rw [HX.out, sameT_no k t u HT.out HU.out HR.out]; rfl, Plc.below_drewN (Plc.below_drewN (Below.refl _ _) n) _⟩
        · have d1 : (t.kind != u.kind) = true := by rw [bne_iff_ne]; exact e1
          have HR : Hid (sm t u = false) := by unfold Hid; rw [HS.out, beq_eq_false_iff_ne.2 e1, Bool.false_and]
          clear e1
          go_wp2_with fail
          go_quiet (fail)
          go_wp2_with fail
          go_ret
          exact ⟨by rw [HX.out, sameT_no k t u HT.out HU.out HR.out]; rfl, Plc.below_drewN (Plc.below_drewN (Below.refl _ _) n) _⟩
      · go_wp2_with fail
        go_ret
        refine ⟨?_, Plc.below_drewN (Below.refl _ _) n⟩
        rw [HX.out, sameT_yes HL.out (fun i t u h1 h2 => HSM.out i t u (by have := (List.getElem?_eq_some_iff.1 h1).1; omega) h1 h2)]
        rfl
  · obtain ⟨a1, c1, rfl⟩ := ha.len
    obtain ⟨a2, c2, rfl⟩ := hb.len
    have b1 : (((la.length : Nat) : Int) != ((lb.length : Nat) : Int)) = true := by rw [bne_iff_ne]; omega
    rw [sameT_len hl]
    clear ha hb hl hm
    go_enter Tryz.func16, Tryz.ntmps16
    go_wp2_with fail
    go_ret
    exact ⟨rfl, Below.refl _ _⟩

/-! ### The law -/

set_option maxHeartbeats 4000000 in
theorem spells_walk (va vb : Value) (la lb : List Tk) (hw : weigh la ≤ 1048576) (w : World) (ha : TkArg w va la) (hb : TkArg w vb lb) (hN : Qt.Nam w) :
    Calls Tryz.prog 4 #[va, vb] w fun e w' => e = .returned (.bool true) ∧ Below w.heap.size w w' := by
  have hlen := weigh_len la
  have hj := joinK_le la
  have hjj : (Lib.join (la.map fun t => t.text.data.toList) [32]).length ≤ 140737488355328 := by
    have : (Lib.join (la.map fun t => t.text.data.toList) [32]).length ≤ weigh la := hj
    omega
  have C1 := Lib.hid (fun W h => spell_any va la W h (by omega) hjj)
  have C2 := Lib.hid (fun W h => refspell_any va la W h (by omega))
  have C3 := Lib.hid (fun W h h2 => same_any va vb la lb W h h2 (by omega))
  have C4 := Lib.hid (fun W h h2 => refsame_any va vb la lb W h h2 (by omega))
  obtain ⟨xa, ca, rfl⟩ := ha.len
  obtain ⟨xb, cb, rfl⟩ := hb.len
  have HA := Lib.hid ha
  have HB := Lib.hid hb
  have HN := Lib.hid hN
  clear ha hb hN hlen hj hjj hw
  generalize spellT la = y at *
  generalize sameT la lb = r at *
  go_enter Tryz.func4, Tryz.ntmps4
  go_wp2_with (first
    | (go_at_call 8; refine (awake_any _ HN.out).mono ?_; rintro e w1 ⟨rfl, hb1⟩; have HB1 := Lib.hid hb1; have A1 := Lib.hid (HA.out.below hb1 (Nat.le_refl _)); have U1 := Lib.hid (HB.out.below hb1 (Nat.le_refl _)); clear hb1)
    | (go_at_call 13; refine (C1.out _ A1.out).mono ?_; rintro e w2 ⟨rfl, hb2⟩; have HB2 := Lib.hid (HB1.out.trans (hb2.mono HB1.out.size)); have A2 := Lib.hid (A1.out.below hb2 (Nat.le_refl _)); have U2 := Lib.hid (U1.out.below hb2 (Nat.le_refl _)); clear hb2)
    | (go_at_call 14; refine (C2.out _ A2.out).mono ?_; rintro e w3 ⟨rfl, hb3⟩; have HB3 := Lib.hid (HB2.out.trans (hb3.mono HB2.out.size)); have A3 := Lib.hid (A2.out.below hb3 (Nat.le_refl _)); have U3 := Lib.hid (U2.out.below hb3 (Nat.le_refl _)); clear hb3)
    | (go_at_call 15; refine (C3.out _ A3.out U3.out).mono ?_; rintro e w4 ⟨rfl, hb4⟩; have HB4 := Lib.hid (HB3.out.trans (hb4.mono HB3.out.size)); have A4 := Lib.hid (A3.out.below hb4 (Nat.le_refl _)); have U4 := Lib.hid (U3.out.below hb4 (Nat.le_refl _)); clear hb4)
    | (go_at_call 16; refine (C4.out _ A4.out U4.out).mono ?_; rintro e w5 ⟨rfl, hb5⟩; have HB5 := Lib.hid (HB4.out.trans (hb5.mono HB4.out.size)); clear hb5))
  go_ret
  exact ⟨rfl, HB5.out⟩
end Go.Proofs.YtkehchajgdepaaaGreatDoor.Lx
