/-
  Plain facts: a string whose tabs are spread to blanks has no tab, ends where it ended, and is spread to itself. No program is run here.
-/
import Derived.Test.YtckailpeedfajaaDoorPlcSpr
namespace Go.Proofs.YtckailpeedfajaaDoor.Plc
open Go.Lib Gly

theorem bt_out (s : ByteArray) (n : Nat) (h : s.size ≤ n) : bt s n = 0 := by
  rw [bt_getD, List.getD_eq_getElem?_getD, List.getElem?_eq_none (by rw [← Lib.size_eq]; exact h)]
  rfl
set_option maxRecDepth 100000 in
set_option maxHeartbeats 4000000 in
theorem decodeN_four (n b0 b1 b2 b3 : Nat) (e1 : n ≤ 1 → b1 = 0) (e2 : n ≤ 2 → b2 = 0) (e3 : n ≤ 3 → b3 = 0) : decodeN n b0 b1 b2 b3 = decodeN 4 b0 b1 b2 b3 := by
  unfold decodeN
  repeat' split
  all_goals first | (exfalso; omega) | rfl
theorem decode_bytes (s : ByteArray) (n : Nat) : Utf8.decode s n = decodeN 4 (bt s n) (bt s (n + 1)) (bt s (n + 2)) (bt s (n + 3)) := by
  rw [decode_at]
  exact decodeN_four _ _ _ _ _ (fun h => bt_out s (n + 1) (by omega)) (fun h => bt_out s (n + 2) (by omega)) (fun h => bt_out s (n + 3) (by omega))
theorem nlAt_bytes (s : ByteArray) (n : Nat) : nlAt s n = if bt s n = 10 ∨ bt s n = 12 then 1 else if bt s n = 13 then (if bt s (n + 1) = 10 then 2 else 1) else 0 := by
  unfold nlAt
  by_cases h : s.size ≤ n
  · rw [if_pos h, if_neg (by rw [bt_out s n h]; omega), if_neg (by rw [bt_out s n h]; omega)]
  · rw [if_neg h]
    by_cases h1 : n + 1 < s.size
    · simp only [h1, true_and]
    · have := bt_out s (n + 1) (by omega)
      simp [h1, this]
/-- Two rows of bytes that are one up to the first tab, which is a blank in the other, begin with the same rune. -/
def tb (b : Nat) : Nat := if b = 9 then 32 else b
set_option maxRecDepth 100000 in
set_option maxHeartbeats 4000000 in
theorem decodeN_tb (b0 b1 b2 b3 o1 o2 o3 : Nat) (h1 : o1 = tb b1) (h2 : b1 ≠ 9 → o2 = tb b2) (h3 : b1 ≠ 9 → b2 ≠ 9 → o3 = tb b3) : decodeN 4 b0 o1 o2 o3 = decodeN 4 b0 b1 b2 b3 := by
  unfold tb at h1 h2 h3
  by_cases c1 : b1 = 9
  · subst c1
    rw [if_pos rfl] at h1
    subst h1
    unfold decodeN
    repeat' split
    all_goals first | (exfalso; omega) | rfl
  · rw [if_neg c1] at h1
    subst h1
    have h2 := h2 c1
    by_cases c2 : b2 = 9
    · subst c2
      rw [if_pos rfl] at h2
      subst h2
      unfold decodeN
      repeat' split
      all_goals first | (exfalso; omega) | rfl
    · rw [if_neg c2] at h2
      subst h2
      have h3 := h3 c1 c2
      by_cases c3 : b3 = 9
      · subst c3
        rw [if_pos rfl] at h3
        subst h3
        unfold decodeN
        repeat' split
        all_goals first | (exfalso; omega) | rfl
      · rw [if_neg c3] at h3
        subst h3
        rfl

theorem getD_app1 (a b : List UInt8) (j : Nat) (h : j < a.length) : (a ++ b).getD j 0 = a.getD j 0 := by
  rw [List.getD_eq_getElem?_getD, List.getD_eq_getElem?_getD, List.getElem?_append_left h]
theorem getD_app2 (a b : List UInt8) (j : Nat) (h : a.length ≤ j) : (a ++ b).getD j 0 = b.getD (j - a.length) 0 := by
  rw [List.getD_eq_getElem?_getD, List.getD_eq_getElem?_getD, List.getElem?_append_right h]
theorem sl_getD (s : ByteArray) (a b j : Nat) (h : j < b - a) : ((sl s a b).getD j 0).toNat = bt s (a + j) := by
  rw [sl_take, Lib.getD_takeU _ _ _ h, Lib.getD_dropU, bt_getD]
theorem rune_notab (s : ByteArray) (p j : Nat) (h0 : bt s p ≠ 9) (h : j < (Utf8.decode s p).2) : bt s (p + j) ≠ 9 := by
  rcases Nat.eq_zero_or_pos j with rfl | hj
  · exact h0
  · have := rune_inner s p j hj h
    omega
/-- Up to the first tab what is written is the string; there it is a blank. -/
theorem spr_tb (s : ByteArray) : ∀ (f p : Nat) (st : Int × Int), 1 ≤ st.2 → s.size ≤ p + f → ∀ j, (∀ i, i < j → bt s (p + i) ≠ 9) → ((spr s f p st).getD j 0).toNat = tb (bt s (p + j)) := by
  intro f
  induction f with
  | zero =>
    intro p st _ hf j _
    rw [bt_out s (p + j) (by omega)]
    rfl
  | succ f ih =>
    intro p st h1 hf j hj
    by_cases hp : p < s.size
    · have hw := width_ge s p
      have hx := width_fits s p hp
      rw [spr, if_pos hp]
      by_cases c9 : bt s p = 9
      · have e : outAt s p st.2 = List.replicate (tabI st.2 - st.2).toNat 32 := by unfold outAt; rw [if_pos c9]
        have ht := tab_step st.2 h1
        rcases Nat.eq_zero_or_pos j with rfl | hj0
        · rw [e, getD_app1 _ _ _ (by rw [List.length_replicate]; omega), Nat.add_zero, c9]
          obtain ⟨m, hm⟩ : ∃ m, (tabI st.2 - st.2).toNat = m + 1 := ⟨(tabI st.2 - st.2).toNat - 1, by omega⟩
          rw [hm]
          rfl
        · exact absurd c9 (hj 0 hj0)
      · have e : outAt s p st.2 = sl s p (p + (Utf8.decode s p).2) := by unfold outAt; rw [if_neg c9]
        have hl := sl_len s p (p + (Utf8.decode s p).2) hx
        rw [e]
        by_cases hjw : j < (Utf8.decode s p).2
        · rw [getD_app1 _ _ _ (by omega), sl_getD s p _ j (by omega)]
          unfold tb
          rw [if_neg (rune_notab s p j c9 hjw)]
        · rw [getD_app2 _ _ _ (by omega), hl, ih (p + (Utf8.decode s p).2) (adv s p st) (adv_col s p st h1) (by omega) _ (fun i hi => by have := hj (i + (Utf8.decode s p).2) (by omega); rw [Nat.add_assoc, Nat.add_comm (Utf8.decode s p).2 i]; exact this)]
          congr 2
          omega
    · rw [spr_end s _ _ _ hp, bt_out s (p + j) (by omega)]
      rfl
theorem spr_notab (s : ByteArray) : ∀ (f p : Nat) (st : Int × Int), ∀ x ∈ spr s f p st, x ≠ 9 := by
  intro f
  induction f with
  | zero => intro p st x hx; simp [spr] at hx
  | succ f ih =>
    intro p st x hx
    rw [spr] at hx
    split at hx
    · rename_i hp
      rcases List.mem_append.1 hx with h | h
      · unfold outAt at h
        split at h
        · have := (List.mem_replicate.1 h).2
          rw [this]
          decide
        · rename_i c9
          obtain ⟨j, hj, hxj⟩ := List.mem_iff_getElem.1 h
          have hl := sl_len s p (p + (Utf8.decode s p).2) (width_fits s p hp)
          have hg := sl_getD s p (p + (Utf8.decode s p).2) j (by omega)
          rw [List.getD_eq_getElem?_getD, List.getElem?_eq_getElem hj, hxj] at hg
          intro hx9
          rw [hx9] at hg
          exact rune_notab s p j c9 (by omega) hg.symm
      · exact ih _ _ _ h
    · simp at hx

theorem bt_app (t : ByteArray) (pre o : List UInt8) (h : t.data.toList = pre ++ o) (j : Nat) : bt t (pre.length + j) = (o.getD j 0).toNat := by
  rw [bt_getD, h, getD_app2 _ _ _ (by omega), Nat.add_sub_cancel_left]
theorem sl_app (t : ByteArray) (pre m o : List UInt8) (h : t.data.toList = pre ++ (m ++ o)) : sl t pre.length (pre.length + m.length) = m := by
  rw [sl_take, h, Nat.add_sub_cancel_left, List.drop_left, List.take_left]
/-- Over blanks. -/
theorem blanks_go (t : ByteArray) : ∀ (n : Nat) (pre o : List UInt8) (f : Nat) (l c : Int), t.data.toList = pre ++ (List.replicate n 32 ++ o) → t.size ≤ pre.length + f →
    scan t t.size f pre.length (l, c) = scan t t.size (f - n) (pre ++ List.replicate n 32).length (l, c + (n : Int)) ∧ spr t f pre.length (l, c) = List.replicate n 32 ++ spr t (f - n) (pre ++ List.replicate n 32).length (l, c + (n : Int)) := by
  intro n
  induction n with
  | zero =>
    intro pre o f l c h hf
    simp
  | succ n ih =>
    intro pre o f l c h hf
    have hs : t.size = pre.length + (n + 1 + o.length) := by
      rw [Lib.size_eq, h]
      simp
    have hp : pre.length < t.size := by omega
    have hb : bt t pre.length = 32 := by
      have := bt_app t pre _ h 0
      rw [Nat.add_zero] at this
      rw [this]
      rfl
    have w1 := width_ascii t pre.length (by omega)
    have h0 : nlAt t pre.length = 0 := by
      rw [nlAt_bytes, hb]
      simp
    have e1 := scan_char t t.size f pre.length (l, c) h0 hp (by omega) hf
    have e2 := spr_go t f pre.length (l, c) hp hf
    have ea : adv t pre.length (l, c) = (l, c + 1) := by
      unfold adv
      rw [if_neg (by omega), if_neg (by omega), if_neg (by omega)]
    have eo : outAt t pre.length c = [32] := by
      unfold outAt
      rw [if_neg (by omega), w1]
      have := sl_app t pre [32] (List.replicate n 32 ++ o) (by rw [h, List.replicate_succ]; simp)
      exact this
    rw [w1, if_neg (by omega)] at e1
    rw [w1, ea] at e2
    dsimp only at e1 e2
    rw [eo] at e2
    have hih := ih (pre ++ [32]) o (f - 1) l (c + 1) (by rw [h, List.replicate_succ]; simp) (by rw [List.length_append]; simp; omega)
    have hlen : (pre ++ [32]).length = pre.length + 1 := by simp
    have hpre : pre ++ [32] ++ List.replicate n 32 = pre ++ List.replicate (n + 1) 32 := by rw [List.replicate_succ]; simp
    rw [hlen, hpre] at hih
    have hf2 : f - 1 - n = f - (n + 1) := by omega
    have hc : c + 1 + (n : Int) = c + ((n + 1 : Nat) : Int) := by omega
    rw [hf2, hc] at hih
    rw [e1, e2, hih.1, hih.2]
    exact ⟨rfl, by rw [List.replicate_succ]; rfl⟩

/-- What is spread is gone through as the string is. -/
theorem stays (s t : ByteArray) : ∀ (f p : Nat) (st : Int × Int) (pre : List UInt8) (g : Nat), 1 ≤ st.2 → s.size ≤ p + f → t.data.toList = pre ++ spr s f p st → t.size ≤ pre.length + g →
    scan t t.size g pre.length st = scan s s.size f p st ∧ spr t g pre.length st = spr s f p st := by
  intro f
  induction f with
  | zero =>
    intro p st pre g _ hf h hg
    have hs : t.size = pre.length := by rw [Lib.size_eq, h]; simp [spr]
    rw [scan_stop _ _ _ _ _ (by omega), spr_end _ _ _ _ (by omega)]
    exact ⟨rfl, rfl⟩
  | succ f ih =>
    intro p st pre g h1 hf h hg
    by_cases hp : p < s.size
    · have hw := width_ge s p
      have hx := width_fits s p hp
      have hs1 : scan s s.size (f + 1) p st = scan s s.size f (p + (Utf8.decode s p).2) (adv s p st) := by rw [scan, if_pos ⟨hp, hx⟩]
      have hs2 : spr s (f + 1) p st = outAt s p st.2 ++ spr s f (p + (Utf8.decode s p).2) (adv s p st) := by rw [spr, if_pos hp]
      by_cases c9 : bt s p = 9
      · have eo : outAt s p st.2 = List.replicate (tabI st.2 - st.2).toNat 32 := by unfold outAt; rw [if_pos c9]
        have ht := tab_step st.2 h1
        have h0 : nlAt s p = 0 := by rw [nlAt_bytes, c9]; simp
        have ea : adv s p st = (st.1, tabI st.2) := by
          unfold adv
          rw [if_neg (by omega), if_neg (by omega), if_pos c9]
        rw [hs2, eo] at h
        have hb := blanks_go t (tabI st.2 - st.2).toNat pre (spr s f (p + (Utf8.decode s p).2) (adv s p st)) g st.1 st.2 h hg
        rw [ht.2.2] at hb
        have hi := ih (p + (Utf8.decode s p).2) (adv s p st) (pre ++ List.replicate (tabI st.2 - st.2).toNat 32) (g - (tabI st.2 - st.2).toNat) (adv_col s p st h1) (by omega) (by rw [h, List.append_assoc]) (by rw [List.length_append, List.length_replicate]; omega)
        have est : (st.1, st.2) = st := rfl
        rw [est] at hb
        rw [hs1, hs2, eo, hb.1, hb.2, ← hi.1, ← hi.2, ea]
        exact ⟨rfl, rfl⟩
      · have eo : outAt s p st.2 = sl s p (p + (Utf8.decode s p).2) := by unfold outAt; rw [if_neg c9]
        have hl := sl_len s p (p + (Utf8.decode s p).2) hx
        have hbt : ∀ j, (∀ i, i < j → bt s (p + i) ≠ 9) → bt t (pre.length + j) = tb (bt s (p + j)) := fun j hj => by
          rw [bt_app t pre _ h j]
          exact spr_tb s (f + 1) p st h1 hf j hj
        have b0 : bt t pre.length = bt s p := by
          have := hbt 0 (fun i hi => absurd hi (by omega))
          rw [Nat.add_zero, Nat.add_zero] at this
          rw [this]
          unfold tb
          rw [if_neg c9]
        have b1 : bt t (pre.length + 1) = tb (bt s (p + 1)) := hbt 1 (fun i hi => by
          obtain rfl : i = 0 := by omega
          exact c9)
        have b2 : bt s (p + 1) ≠ 9 → bt t (pre.length + 2) = tb (bt s (p + 2)) := fun q => hbt 2 (fun i hi => by
          rcases (show i = 0 ∨ i = 1 by omega) with rfl | rfl
          · exact c9
          · exact q)
        have b3 : bt s (p + 1) ≠ 9 → bt s (p + 2) ≠ 9 → bt t (pre.length + 3) = tb (bt s (p + 3)) := fun q r => hbt 3 (fun i hi => by
          rcases (show i = 0 ∨ i = 1 ∨ i = 2 by omega) with rfl | rfl | rfl
          · exact c9
          · exact q
          · exact r)
        have hd : Utf8.decode t pre.length = Utf8.decode s p := by
          rw [decode_bytes, decode_bytes, b0]
          exact decodeN_tb _ _ _ _ _ _ _ b1 b2 b3
        have hn : nlAt t pre.length = nlAt s p := by
          rw [nlAt_bytes, nlAt_bytes, b0, b1]
          unfold tb
          by_cases q : bt s (p + 1) = 9
          · rw [if_pos q, q]
            simp
          · rw [if_neg q]
        have ea : adv t pre.length st = adv s p st := by
          unfold adv
          rw [hn, b0]
        rw [hs2, eo] at h
        have hpt : pre.length < t.size := by
          rw [Lib.size_eq, h, List.length_append, List.length_append]
          omega
        have eot : outAt t pre.length st.2 = sl s p (p + (Utf8.decode s p).2) := by
          unfold outAt
          rw [b0, if_neg c9, hd]
          have := sl_app t pre _ _ h
          rw [hl] at this
          have e : p + (Utf8.decode s p).2 - p = (Utf8.decode s p).2 := by omega
          rw [e] at this
          exact this
        have hxt := width_fits t pre.length hpt
        have g1 := scan_go t t.size g pre.length st ⟨hpt, hxt⟩ hg
        have g2 := spr_go t g pre.length st hpt hg
        rw [hd, ea] at g1 g2
        have hi := ih (p + (Utf8.decode s p).2) (adv s p st) (pre ++ sl s p (p + (Utf8.decode s p).2)) (g - 1) (adv_col s p st h1) (by omega) (by rw [h, List.append_assoc]) (by rw [List.length_append, hl]; omega)
        have hlen : (pre ++ sl s p (p + (Utf8.decode s p).2)).length = pre.length + (Utf8.decode s p).2 := by rw [List.length_append, hl]; omega
        rw [hlen] at hi
        rw [hs1, hs2, eo, g1, g2, eot, hi.1, hi.2]
        exact ⟨rfl, rfl⟩
    · rw [spr_end s _ _ _ hp] at h ⊢
      have hs : t.size = pre.length := by rw [Lib.size_eq, h]; simp
      rw [scan_stop _ _ _ _ _ (by omega), spr_end _ _ _ _ (by omega), scan_stop s _ _ _ _ (by omega)]
      exact ⟨rfl, rfl⟩

theorem spread_stays (s : ByteArray) : spot (⟨(sprL s).toArray⟩ : ByteArray) 1 (⟨(sprL s).toArray⟩ : ByteArray).size = spot s 1 s.size ∧ sprL (⟨(sprL s).toArray⟩ : ByteArray) = sprL s :=
  stays s ⟨(sprL s).toArray⟩ s.size 0 (1, 1) [] _ (by decide) (by omega) rfl (by simp)
theorem spread_notab (s : ByteArray) (i : Nat) (h : i < (⟨(sprL s).toArray⟩ : ByteArray).size) : bt (⟨(sprL s).toArray⟩ : ByteArray) i ≠ 9 := by
  rw [bt_getD]
  have hl : i < (sprL s).length := by rw [Lib.size_eq] at h; exact h
  have e : ((⟨(sprL s).toArray⟩ : ByteArray).data.toList.getD i 0) = (sprL s)[i] := by
    show (sprL s).getD i 0 = _
    rw [List.getD_eq_getElem?_getD, List.getElem?_eq_getElem hl]
    rfl
  rw [e]
  have := spr_notab s s.size 0 (1, 1) _ (List.getElem_mem hl)
  intro h9
  apply this
  exact UInt8.toNat_inj.1 h9
end Go.Proofs.YtckailpeedfajaaDoor.Plc
