/-
  Plain facts about comments in a row of bytes, continued: what a comment is, that it is one by itself, that laid anew it is of the same kind, and clean. No program is run here.
-/
import Derived.Test.YtcbjcgbfdniieaaDoorNotMath
namespace Go.Proofs.YtcbjcgbfdniieaaDoor.Not
open Go.Lib Gly
open Wrd (rn wd run run_le run_same run_step run_stop wd_pos wd_le dec_same)
set_option linter.unusedSimpArgs false
set_option linter.unusedVariables false

/-! ### Texts that are the same but for their blanks -/

inductive Bl : List UInt8 → List UInt8 → Prop
  | nil : Bl [] []
  | byte (b : UInt8) (x y : List UInt8) : blk b = false → Bl x y → Bl (b :: x) (b :: y)
  | gap (u v x y : List UInt8) : u ≠ [] → v ≠ [] → allBlk u → allBlk v → Bl x y → Bl (u ++ x) (v ++ y)
theorem Bl.symm {x y : List UInt8} (h : Bl x y) : Bl y x := by
  induction h with
  | nil => exact .nil
  | byte b x y hb _ ih => exact .byte b y x hb ih
  | gap u v x y hu hv ku kv _ ih => exact .gap v u y x hv hu kv ku ih
theorem Bl.append {x y x' y' : List UInt8} (h : Bl x y) (h' : Bl x' y') : Bl (x ++ x') (y ++ y') := by
  induction h with
  | nil => exact h'
  | byte b x y hb _ ih => exact .byte b _ _ hb ih
  | gap u v x y hu hv ku kv _ ih =>
    rw [List.append_assoc, List.append_assoc]
    exact .gap u v _ _ hu hv ku kv ih
theorem allBlk.reverse {l : List UInt8} (h : allBlk l) : allBlk l.reverse := fun b hb => h b (List.mem_reverse.1 hb)
theorem Bl.reverse {x y : List UInt8} (h : Bl x y) : Bl x.reverse y.reverse := by
  induction h with
  | nil => exact .nil
  | byte b x y hb _ ih =>
    rw [List.reverse_cons, List.reverse_cons]
    exact ih.append (.byte b [] [] hb .nil)
  | gap u v x y hu hv ku kv _ ih =>
    rw [List.reverse_append, List.reverse_append]
    have := Bl.gap u.reverse v.reverse [] [] (by simpa using hu) (by simpa using hv) ku.reverse kv.reverse .nil
    rw [List.append_nil, List.append_nil] at this
    exact ih.append this
theorem Bl.cons {b : UInt8} {x z : List UInt8} (hb : blk b = false) (h : Bl (b :: x) z) : ∃ y, z = b :: y ∧ Bl x y := by
  generalize hw : b :: x = w at h
  cases h with
  | nil => cases hw
  | byte c x' y hc h =>
    cases hw
    exact ⟨y, rfl, h⟩
  | gap u v x' y hu hv ku kv h =>
    cases u with
    | nil => exact absurd rfl hu
    | cons c u =>
      rw [List.cons_append] at hw
      obtain ⟨rfl, _⟩ := List.cons.inj hw
      rw [ku b (List.mem_cons_self ..)] at hb
      cases hb
theorem Bl.head {x y : List UInt8} (h : Bl x y) (b : UInt8) (hb : blk b = false) (hx : x.head? = some b) : y.head? = some b := by
  cases x with
  | nil => cases hx
  | cons c x =>
    obtain rfl : c = b := by simpa using hx
    obtain ⟨y', rfl, _⟩ := h.cons hb
    rfl
/-- What is left without the blanks. -/
def nbl (l : List UInt8) : List UInt8 := l.filter (fun b => !blk b)
theorem nbl_blank (u : List UInt8) (h : allBlk u) : nbl u = [] := by
  unfold nbl
  rw [List.filter_eq_nil_iff]
  intro b hb
  rw [h b hb]
  decide
theorem Bl.nbl {x y : List UInt8} (h : Bl x y) : nbl x = nbl y := by
  induction h with
  | nil => rfl
  | byte b x y hb _ ih =>
    unfold Not.nbl at ih ⊢
    rw [List.filter_cons, List.filter_cons, ih]
  | gap u v x y hu hv ku kv _ ih =>
    have hu := nbl_blank u ku
    have hv := nbl_blank v kv
    unfold Not.nbl at ih hu hv ⊢
    rw [List.filter_append, List.filter_append, ih, hu, hv]
theorem bl_map : ∀ (m : List UInt8), Bl m (m.map fl)
  | [] => .nil
  | b :: m => by
    cases hb : blk b with
    | false =>
      rw [List.map_cons, fl_same b hb]
      exact .byte b _ _ hb (bl_map m)
    | true =>
      refine .gap [b] [fl b] _ _ (by simp) (by simp) ?_ ?_ (bl_map m)
      · intro c hc
        rw [List.mem_singleton.1 hc]
        exact hb
      · intro c hc
        rw [List.mem_singleton.1 hc, fl_blk]
        exact hb

/-- Is it what is left of a comment that is d deep, up to its end? -/
def acc : Nat → Nat → List UInt8 → Bool
  | d, _, [] => d == 0
  | d, q, b :: r => d != 0 && acc (stp d q b).1 (stp d q b).2 r
theorem acc_end : ∀ (L : List UInt8) (d q : Nat), d ≠ 0 → (acc d q L = true ↔ (L ≠ [] ∧ endA d q L = L.length))
  | [], d, q, hd => by
    simp [acc, hd]
  | b :: r, d, q, hd => by
    rw [acc, endA, show (d != 0) = true from bne_iff_ne.2 hd, Bool.true_and, List.length_cons]
    by_cases h0 : (stp d q b).1 = 0
    · rw [if_pos h0, h0]
      cases r with
      | nil => simp [acc]
      | cons c r => simp [acc]
    · rw [if_neg h0, acc_end r _ _ h0]
      cases r with
      | nil => simp [endA]
      | cons c r =>
        have := endA_le (c :: r) (stp d q b).1 (stp d q b).2
        rw [List.length_cons] at this ⊢
        constructor
        · rintro ⟨_, h⟩
          rw [h, if_neg (by omega)]
          exact ⟨by simp, rfl⟩
        · rintro ⟨_, h⟩
          split at h
          · omega
          · exact ⟨by simp, by omega⟩
theorem stp_blank (d q : Nat) (b : UInt8) (hb : blk b = true) : stp d q b = (d, 0) := by
  have h := byte_all (fun b => !blk b || (b != 45 && b != 125 && b != 123)) (by decide +kernel) b
  rw [hb] at h
  simp at h
  unfold stp
  rw [if_neg (fun x => h.1.1 x.2), if_neg (fun x => h.1.2 x.2), if_neg h.2, if_neg h.1.1]
theorem acc_gap : ∀ (u x : List UInt8) (d q : Nat), u ≠ [] → allBlk u → acc d q (u ++ x) = (d != 0 && acc d 0 x)
  | [], _, _, _, h, _ => absurd rfl h
  | [b], x, d, q, _, hu => by
    rw [List.singleton_append, acc, stp_blank d q b (hu b (List.mem_cons_self ..))]
  | b :: c :: u, x, d, q, _, hu => by
    rw [List.cons_append, acc, stp_blank d q b (hu b (List.mem_cons_self ..))]
    dsimp only
    rw [acc_gap (c :: u) x d 0 (by simp) (fun e he => hu e (List.mem_cons_of_mem _ he))]
    cases (d != 0) <;> rfl
theorem Bl.acc {x y : List UInt8} (h : Bl x y) : ∀ (d q : Nat), acc d q x = acc d q y := by
  induction h with
  | nil => intro d q; rfl
  | byte b x y hb _ ih =>
    intro d q
    rw [Not.acc, Not.acc, ih]
  | gap u v x y hu hv ku kv _ ih =>
    intro d q
    rw [acc_gap u x d q hu ku, acc_gap v y d q hv kv, ih]
theorem acc_last : ∀ (L : List UInt8) (d q : Nat), d ≠ 0 → acc d q L = true → (∃ p, L.reverse = 125 :: 45 :: p) ∨ (q = 2 ∧ L = [125])
  | [], d, q, hd, h => by
    rw [acc, beq_iff_eq] at h
    exact absurd h hd
  | b :: r, d, q, hd, h => by
    rw [acc, show (d != 0) = true from bne_iff_ne.2 hd, Bool.true_and] at h
    by_cases h0 : (stp d q b).1 = 0
    · refine .inr ?_
      rw [h0] at h
      have hr : r = [] := by
        cases r with
        | nil => rfl
        | cons c r => simp [acc] at h
      subst hr
      unfold stp at h0
      split at h0
      · dsimp only at h0
        omega
      · split at h0
        · rename_i hq
          exact ⟨hq.1, by rw [hq.2]⟩
        · split at h0
          · exact absurd h0 hd
          · split at h0 <;> exact absurd h0 hd
    · rcases acc_last r _ _ h0 h with ⟨p, hp⟩ | ⟨hq, rfl⟩
      · exact .inl ⟨p ++ [b], by rw [List.reverse_cons, hp]; rfl⟩
      · refine .inl ⟨[], ?_⟩
        have hb : b = 45 := by
          unfold stp at hq
          split at hq
          · cases hq
          · split at hq
            · cases hq
            · split at hq
              · cases hq
              · split at hq
                · assumption
                · cases hq
        rw [hb]
        rfl

theorem last_blank {x z : List UInt8} (hz : allBlk z) (h : ∀ b, (x ++ z).getLast? = some b → blk b = false) : z = [] := by
  cases hl : z.getLast? with
  | none => exact List.getLast?_eq_none_iff.1 hl
  | some b =>
    have := h b (by rw [List.getLast?_append, hl]; rfl)
    rw [hz b (List.mem_of_getLast? hl)] at this
    cases this
theorem last_right {x y : List UInt8} (hy : y ≠ []) (h : ∀ b, (x ++ y).getLast? = some b → blk b = false) : ∀ b, y.getLast? = some b → blk b = false := by
  intro b hb
  apply h
  rw [List.getLast?_append, hb]
  rfl
/-- Laid anew a text is the same but for its blanks, and those ahead of it. -/
theorem tidy_bl (n : Nat) : ∀ (k : Nat) (x : List UInt8), x.length ≤ k → x ≠ [] → (∀ b, x.getLast? = some b → blk b = false) → ∃ a x1, x = a ++ x1 ∧ allBlk a ∧ Bl x1 (tidyB n x) := by
  intro k
  induction k with
  | zero =>
    intro x hx hne _
    exact absurd (List.eq_nil_of_length_eq_zero (by omega)) hne
  | succ k ih =>
    intro x hx hne hl
    rcases linesB_cases x with h | ⟨l, w, y, h1, h2, h3, h4, h5⟩
    · obtain ⟨a, m, z, e1, ka, kz, e2⟩ := bareB_split x
      have hz : z = [] := by
        rw [e1, ← List.append_assoc] at hl
        exact last_blank kz hl
      subst hz
      rw [List.append_nil] at e1
      refine ⟨a, m, e1, ka, ?_⟩
      have : tidyB n x = m.map fl := by
        unfold tidyB barL
        rw [linesB_last x h, List.map_cons, List.map_nil, joinB, tailB, List.append_nil, e2]
      rw [this]
      exact bl_map m
    · have hy : y ≠ [] := by
        rintro rfl
        rw [List.append_nil] at h2
        rw [h2] at hl
        exact h3 (last_blank h4 hl)
      have hly : ∀ b, y.getLast? = some b → blk b = false := by
        rw [h2, ← List.append_assoc] at hl
        exact last_right hy hl
      have hlen := congrArg List.length h2
      rw [List.length_append, List.length_append] at hlen
      have h3p := List.length_pos_iff.2 h3
      obtain ⟨a', y1, f1, f2, f3⟩ := ih y (by omega) hy hly
      obtain ⟨a, m, z, e1, ka, kz, e2⟩ := bareB_split l
      cases hb : barL y with
      | nil => exact absurd hb (barL_ne y)
      | cons h t =>
        refine ⟨a, m ++ ((z ++ (w ++ a')) ++ y1), ?_, ka, ?_⟩
        · rw [h2, e1, f1]
          simp only [List.append_assoc]
        · have ht : tidyB n x = m.map fl ++ ((10 :: (if h = [] then [] else List.replicate n 32)) ++ tidyB n y) := by
            unfold tidyB
            rw [hb, show barL x = bareB l :: barL y by unfold barL; rw [h5]; rfl, hb, joinB, tailB, joinB, e2]
            congr 1
            rw [List.cons_append]
            congr 1
            split
            · rename_i e
              rw [e]
              rfl
            · rw [List.append_assoc]
          rw [ht]
          refine (bl_map m).append (.gap _ _ _ _ ?_ (by simp) (kz.append (h4.append f2)) ?_ f3)
          · intro e
            rw [List.append_eq_nil_iff, List.append_eq_nil_iff] at e
            exact h3 e.2.1
          · refine allBlk.cons (by decide) ?_
            split
            · exact allBlk.nil
            · intro b hb
              rw [(List.mem_replicate.1 hb).2]
              decide

/-! ### What a comment is -/

def symP (c : Int) : Bool := classI c == 5
theorem sym_bad : symP 65533 = false := by decide +kernel
/-- Does it begin as a nested comment does? -/
def opn : List UInt8 → Bool
  | b :: c :: _ => b == 123 && c == 45
  | _ => false
/-- Are these two dashes or more, and nothing else? -/
def dsh (l : List UInt8) : Bool := decide (2 ≤ l.length) && l.all (· == 45)
/-- How many bytes there are up to the next newline. -/
def nlEnd : List UInt8 → Nat
  | [] => 0
  | b :: r => if nl b = true then 0 else nlEnd r + 1
theorem nlEnd_le : ∀ (L : List UInt8), nlEnd L ≤ L.length
  | [] => Nat.le_refl _
  | b :: r => by
    have := nlEnd_le r
    rw [nlEnd, List.length_cons]
    split <;> omega
theorem nlEnd_none : ∀ (L : List UInt8), noNl L → nlEnd L = L.length
  | [], _ => rfl
  | b :: r, h => by rw [nlEnd, h b (List.mem_cons_self ..), if_neg (by decide), nlEnd_none r h.tail, List.length_cons]
theorem nlEnd_all : ∀ (L : List UInt8), nlEnd L = L.length → noNl L
  | [], _ => fun _ h => nomatch h
  | b :: r, h => by
    rw [nlEnd, List.length_cons] at h
    split at h
    · omega
    · rename_i hb
      exact noNl.cons (by simpa using hb) (nlEnd_all r (by omega))
theorem nlEnd_take : ∀ (L : List UInt8), noNl (L.take (nlEnd L))
  | [] => fun _ h => by simp [nlEnd] at h
  | b :: r => by
    rw [nlEnd]
    split
    · exact fun _ h => by simp at h
    · rename_i hb
      rw [List.take_succ_cons]
      exact noNl.cons (by simpa using hb) (nlEnd_take r)
/-- How many bytes the comment has that a row of bytes begins with (0: there is none), and what is wrong. -/
def scanN (L : List UInt8) : Nat × Nat :=
  if opn L = true then (if endA 1 0 (L.drop 2) = 0 then (0, 60) else (endA 1 0 (L.drop 2) + 2, 0))
  else if dsh (L.take (run symP L)) = true then (run symP L + nlEnd (L.drop (run symP L)), 0) else (0, 0)
def prag (L : List UInt8) : Bool := decide (6 ≤ L.length) && L.getD 2 0 == 35 && L.getD (L.length - 3) 0 == 35
def kindN (L : List UInt8) : Nat := if (scanN L).1 = 0 ∨ (scanN L).1 < L.length then 0 else if opn L = false then 1 else if prag L = true then 3 else 2
theorem opn_split (L : List UInt8) (h : opn L = true) : ∃ r, L = 123 :: 45 :: r := by
  match L, h with
  | b :: c :: r, h =>
    simp [opn] at h
    exact ⟨r, by rw [h.1, h.2]⟩
theorem scanN_le (L : List UInt8) : (scanN L).1 ≤ L.length := by
  unfold scanN
  split
  · rename_i h
    obtain ⟨r, rfl⟩ := opn_split L h
    have := endA_le r 1 0
    show (if endA 1 0 r = 0 then _ else _ : Nat × Nat).1 ≤ _
    simp only [List.length_cons]
    split
    · exact Nat.zero_le _
    · dsimp only
      change endA 1 0 r + 2 ≤ _
      omega
  · split
    · have h1 := run_le symP L.length L (Nat.le_refl _)
      have h2 := nlEnd_le (L.drop (run symP L))
      rw [List.length_drop] at h2
      dsimp only
      omega
    · exact Nat.zero_le _
theorem dsh_take {L : List UInt8} {m : Nat} (h : dsh (L.take m) = true) : 2 ≤ m ∧ m ≤ L.length ∨ 2 ≤ L.length ∧ L.length ≤ m := by
  unfold dsh at h
  rw [Bool.and_eq_true] at h
  have := of_decide_eq_true h.1
  rw [List.length_take] at this
  omega
theorem dsh_bytes {L : List UInt8} (h : dsh L = true) : ∀ b ∈ L, b = 45 := by
  unfold dsh at h
  rw [Bool.and_eq_true] at h
  intro b hb
  exact beq_iff_eq.1 (List.all_eq_true.1 h.2 b hb)
theorem dsh_len {L : List UInt8} (h : dsh L = true) : 2 ≤ L.length := by
  unfold dsh at h
  rw [Bool.and_eq_true] at h
  exact of_decide_eq_true h.1
theorem dsh_opn {L : List UInt8} {m : Nat} (h : dsh (L.take m) = true) : opn L = false := by
  have h1 := dsh_bytes h
  have h2 := dsh_len h
  match L, m, h1, h2 with
  | [], m, _, h2 => rfl
  | [b], m, _, _ => rfl
  | b :: c :: r, 0, _, h2 => simp at h2
  | b :: c :: r, m + 1, h1, _ =>
    have : b = 45 := h1 b (by rw [List.take_succ_cons]; exact List.mem_cons_self ..)
    subst this
    rfl
/-- Behind a row of symbols no symbol stands. -/
theorem run_end (P : Int → Bool) : ∀ (n : Nat) (L : List UInt8), L.length ≤ n → L.drop (run P L) = [] ∨ P (rn (L.drop (run P L))) = false := by
  intro n
  induction n with
  | zero =>
    intro L h
    obtain rfl : L = [] := List.eq_nil_of_length_eq_zero (by omega)
    exact .inl (by simp)
  | succ n ih =>
    intro L h
    by_cases hz : L = [] ∨ P (rn L) = false
    · rw [run_stop P L hz, List.drop_zero]
      exact hz
    · have hne : L ≠ [] := fun e => hz (Or.inl e)
      have hp : P (rn L) = true := by cases hq : P (rn L) with | true => rfl | false => exact absurd (Or.inr hq) hz
      have hw := wd_pos L
      have hx := wd_le L hne
      rw [run_step P L hne hp, ← List.drop_drop]
      exact ih (L.drop (wd L)) (by rw [List.length_drop]; omega)
theorem sym_take (L : List UInt8) (j : Nat) (h : L = [] ∨ symP (rn L) = false) : L.take j = [] ∨ symP (rn (L.take j)) = false := by
  by_cases h0 : L.take j = []
  · exact .inl h0
  refine .inr ?_
  cases hs : symP (rn (L.take j)) with
  | false => rfl
  | true =>
    exfalso
    have hbad : rn (L.take j) ≠ 65533 := by
      intro e
      rw [e, sym_bad] at hs
      cases hs
    have hx := wd_le _ h0
    have hj : wd (L.take j) ≤ j := Nat.le_trans hx (by rw [List.length_take]; omega)
    have hd := dec_same (L.take j) L hbad (Nat.le_trans hx (by rw [List.length_take]; omega)) (by rw [List.take_take, Nat.min_eq_left hj])
    rcases h with h | h
    · rw [h] at h0
      simp at h0
    · have : rn L = rn (L.take j) := by unfold Wrd.rn; rw [hd]
      rw [this, hs] at h
      cases h
theorem run_take (L : List UInt8) (k : Nat) (hk : run symP L ≤ k) : run symP (L.take k) = run symP L := by
  have hr := run_le symP _ L (Nat.le_refl _)
  refine run_same symP sym_bad _ L (L.take k) (Nat.le_refl _) (by rw [List.take_take, Nat.min_eq_left hk]) (by rw [List.length_take]; omega) ?_
  rw [List.drop_take]
  exact sym_take _ _ (run_end symP _ L (Nat.le_refl _))

/-- What is found as a comment is one by itself; a nested one is found so whatever stands behind it. -/
theorem scan_whole (L M : List UInt8) (h : (scanN L).1 ≠ 0) : kindN (L.take (scanN L).1) ≠ 0 ∧ (kindN (L.take (scanN L).1) = 1 ∨ scanN (L.take (scanN L).1 ++ M) = ((scanN L).1, 0)) := by
  by_cases ho : opn L = true
  · obtain ⟨r, rfl⟩ := opn_split L ho
    have hs : ∀ r', scanN (123 :: 45 :: r') = if endA 1 0 r' = 0 then (0, 60) else (endA 1 0 r' + 2, 0) := fun r' => rfl
    rw [hs] at h ⊢
    by_cases h0 : endA 1 0 r = 0
    · rw [if_pos h0] at h
      exact absurd rfl h
    · rw [if_neg h0]
      dsimp only
      rw [List.take_succ_cons, List.take_succ_cons]
      have hle := endA_le r 1 0
      have key : ∀ M, scanN (123 :: 45 :: (r.take (endA 1 0 r) ++ M)) = (endA 1 0 r + 2, 0) := by
        intro M
        rw [hs, endA_cut r M 1 0 h0, if_neg h0]
      refine ⟨?_, .inr ?_⟩
      · have k0 := key []
        rw [List.append_nil] at k0
        unfold kindN
        rw [k0, if_neg]
        · rw [if_neg (by simp [opn])]
          split <;> decide
        · dsimp only
          rw [List.length_cons, List.length_cons, List.length_take]
          omega
      · rw [List.cons_append, List.cons_append]
        exact key M
  · have hof : opn L = false := by simpa using ho
    by_cases hd : dsh (L.take (run symP L)) = true
    · have hs : scanN L = (run symP L + nlEnd (L.drop (run symP L)), 0) := by
        unfold scanN
        rw [if_neg ho, if_pos hd]
      have hle := scanN_le L
      rw [hs] at hle ⊢
      dsimp only at hle ⊢
      have hrun := run_take L (run symP L + nlEnd (L.drop (run symP L))) (by omega)
      have htk : (L.take (run symP L + nlEnd (L.drop (run symP L)))).take (run symP L) = L.take (run symP L) := by rw [List.take_take, Nat.min_eq_left (by omega)]
      have hdr : (L.take (run symP L + nlEnd (L.drop (run symP L)))).drop (run symP L) = (L.drop (run symP L)).take (nlEnd (L.drop (run symP L))) := by
        rw [List.drop_take, Nat.add_sub_cancel_left]
      have hle2 := nlEnd_le (L.drop (run symP L))
      have hsc : scanN (L.take (run symP L + nlEnd (L.drop (run symP L)))) = (run symP L + nlEnd (L.drop (run symP L)), 0) := by
        have hop : opn (L.take (run symP L + nlEnd (L.drop (run symP L)))) = false := dsh_opn (m := run symP L) (by rw [htk]; exact hd)
        unfold scanN
        rw [hop, if_neg (by decide), hrun, htk, if_pos hd, hdr, nlEnd_none _ (nlEnd_take _), List.length_take, Nat.min_eq_left hle2]
      have h2 := dsh_len hd
      rw [List.length_take] at h2
      have hk : kindN (L.take (run symP L + nlEnd (L.drop (run symP L)))) = 1 := by
        have hop : opn (L.take (run symP L + nlEnd (L.drop (run symP L)))) = false := dsh_opn (m := run symP L) (by rw [htk]; exact hd)
        unfold kindN
        rw [hsc, if_neg, if_pos hop]
        dsimp only
        rw [List.length_take]
        omega
      exact ⟨by rw [hk]; decide, .inl hk⟩
    · exfalso
      apply h
      unfold scanN
      rw [if_neg ho, if_neg hd]

/-! ### Laid anew it is of the same kind -/

theorem sym_fl (X : List UInt8) (h : X = [] ∨ symP (rn X) = false) : X.map fl = [] ∨ symP (rn (X.map fl)) = false := by
  by_cases h0 : X.map fl = []
  · exact .inl h0
  refine .inr ?_
  cases hs : symP (rn (X.map fl)) with
  | false => rfl
  | true =>
    exfalso
    have hbad : rn (X.map fl) ≠ 65533 := by
      intro e
      rw [e, sym_bad] at hs
      cases hs
    have hx := wd_le _ h0
    have hw := wd_pos (X.map fl)
    rw [List.length_map] at hx
    have big : ∀ j, j < wd (X.map fl) → fl (X.getD j 0) = X.getD j 0 := by
      intro j hj
      have hjl : j < (X.map fl).length := by rw [List.length_map]; omega
      have hg : (X.map fl).getD j 0 = fl (X.getD j 0) := by
        rw [List.getD_eq_getElem?_getD, List.getD_eq_getElem?_getD, List.getElem?_map, List.getElem?_eq_getElem (show j < X.length by omega)]
        rfl
      have hns : (X.map fl).getD j 0 ≠ 32 := by
        by_cases hj0 : j = 0
        · subst hj0
          intro e
          have hr : rn (X.map fl) = 32 := by
            unfold Wrd.rn
            rw [decodeL_N, e, decodeN_ascii _ _ _ _ _ (by decide)]
            rfl
          rw [hr] at hs
          revert hs
          decide +kernel
        · intro e
          have hbt := Plc.rune_inner ⟨(X.map fl).toArray⟩ 0 j (by omega) (by
            rw [← decodeL_drop, List.drop_zero]
            exact hj)
          rw [Plc.bt_getD, Nat.zero_add, e] at hbt
          revert hbt
          decide
      have hq := byte_all (fun b => fl b == 32 || fl b == b) (by decide +kernel) (X.getD j 0)
      rw [Bool.or_eq_true, beq_iff_eq, beq_iff_eq] at hq
      rcases hq with hq | hq
      · rw [hg] at hns
        exact absurd hq hns
      · exact hq
    have htk : X.take (wd (X.map fl)) = (X.map fl).take (wd (X.map fl)) := by
      rw [← List.map_take]
      have : ∀ (Y : List UInt8), (∀ j, j < Y.length → fl (Y.getD j 0) = Y.getD j 0) → Y = Y.map fl := by
        intro Y hY
        apply List.ext_getElem (by rw [List.length_map])
        intro j h1 h2
        have := hY j h1
        rw [List.getD_eq_getElem?_getD, List.getElem?_eq_getElem h1] at this
        rw [List.getElem_map]
        exact this.symm
      apply this
      intro j hj
      rw [List.length_take] at hj
      rw [getD_takeU X _ j (by omega)]
      exact big j (by omega)
    have hd := dec_same (X.map fl) X hbad hx htk
    rcases h with h | h
    · rw [h] at h0
      simp at h0
    · have : rn X = rn (X.map fl) := by unfold Wrd.rn; rw [hd]
      rw [this, hs] at h
      cases h

theorem keep_row (n : Nat) (L : List UInt8) (h : kindN L = 1) : kindN (tidyB n L) = 1 := by
  have hof : opn L = false := by
    unfold kindN at h
    split at h
    · cases h
    · split at h
      · assumption
      · split at h <;> cases h
  have hlen : (scanN L).1 = L.length ∧ (scanN L).1 ≠ 0 := by
    unfold kindN at h
    split at h
    · cases h
    · have := scanN_le L
      omega
  have hd : dsh (L.take (run symP L)) = true := by
    cases hd : dsh (L.take (run symP L)) with
    | true => rfl
    | false =>
      exfalso
      apply hlen.2
      unfold scanN
      rw [hof, if_neg (by decide), hd, if_neg (by decide)]
  have hs : scanN L = (run symP L + nlEnd (L.drop (run symP L)), 0) := by
    unfold scanN
    rw [hof, if_neg (by decide), if_pos hd]
  rw [hs] at hlen
  dsimp only at hlen
  have hrl := run_le symP _ L (Nat.le_refl _)
  have hnd : noNl (L.drop (run symP L)) := nlEnd_all _ (by rw [List.length_drop]; omega)
  have hnl : noNl L := by
    intro b hb
    rw [← List.take_append_drop (run symP L) L] at hb
    rcases List.mem_append.1 hb with hb | hb
    · rw [dsh_bytes hd b hb]
      decide
    · exact hnd b hb
  have h2 := dsh_len hd
  rw [List.length_take] at h2
  obtain ⟨a, m, z, e1, ka, kz, e2⟩ := bareB_split L
  have hat : ∀ j, j < run symP L → L[j]? = some 45 := by
    intro j hj
    have hj2 : j < (L.take (run symP L)).length := by rw [List.length_take]; omega
    have := dsh_bytes hd _ (List.getElem_mem hj2)
    rw [List.getElem_take] at this
    rw [List.getElem?_eq_getElem (by omega), this]
  have ha : a = [] := by
    cases a with
    | nil => rfl
    | cons c a =>
      have h0 := hat 0 (by omega)
      rw [e1] at h0
      obtain rfl : c = 45 := by simpa using h0
      exact absurd (ka 45 (List.mem_cons_self ..)) (by decide)
  subst ha
  rw [List.nil_append] at e1
  have hml : run symP L ≤ m.length := by
    rcases Nat.lt_or_ge m.length (run symP L) with hh | hh
    · exfalso
      have h0 := hat m.length hh
      rw [e1, List.getElem?_append_right (Nat.le_refl _), Nat.sub_self] at h0
      have := kz 45 (List.mem_of_getElem? h0)
      revert this
      decide
    · exact hh
  have ht : tidyB n L = m.map fl := by
    unfold tidyB barL
    rw [linesB_last L hnl, List.map_cons, List.map_nil, joinB, tailB, List.append_nil, e2]
  rw [ht]
  have hmt : m.take (run symP L) = L.take (run symP L) := by
    have q := congrArg (List.take (run symP L)) e1
    rw [List.take_append_of_le_length hml] at q
    exact q.symm
  have htk : (m.map fl).take (run symP L) = L.take (run symP L) := by
    rw [← List.map_take, hmt]
    have : ∀ (Y : List UInt8), (∀ b ∈ Y, b = 45) → Y.map fl = Y := by
      intro Y hY
      induction Y with
      | nil => rfl
      | cons b Y ih =>
        rw [List.map_cons, ih (fun c hc => hY c (List.mem_cons_of_mem _ hc)), hY b (List.mem_cons_self ..)]
        rfl
    exact this _ (dsh_bytes hd)
  have hdm : m.drop (run symP L) = (L.drop (run symP L)).take (m.length - run symP L) := by
    have q := congrArg (List.drop (run symP L)) e1
    rw [List.drop_append_of_le_length hml] at q
    rw [q, List.take_append_of_le_length (by rw [List.length_drop]; omega), List.take_of_length_le (by rw [List.length_drop]; omega)]
  have hrun : run symP (m.map fl) = run symP L := by
    refine run_same symP sym_bad _ L (m.map fl) (Nat.le_refl _) htk (by rw [List.length_map]; exact hml) ?_
    rw [← List.map_drop]
    apply sym_fl
    rw [hdm]
    exact sym_take _ _ (run_end symP _ L (Nat.le_refl _))
  have hop : opn (m.map fl) = false := dsh_opn (m := run symP L) (by rw [htk]; exact hd)
  have hnt : noNl ((m.map fl).drop (run symP L)) := by
    intro b hb
    have hb := List.mem_of_mem_drop hb
    obtain ⟨c, hc, rfl⟩ := List.mem_map.1 hb
    rw [fl_nl]
    exact hnl c (by rw [e1]; exact List.mem_append_left _ hc)
  have hsc : scanN (m.map fl) = ((m.map fl).length, 0) := by
    unfold scanN
    rw [hop, if_neg (by decide), hrun, htk, if_pos hd, nlEnd_none _ hnt, List.length_drop, List.length_map, Nat.add_sub_cancel' hml]
  unfold kindN
  rw [hsc, if_neg, if_pos hop]
  dsimp only
  rw [List.length_map]
  omega

/-- A pragma, behind its opening. -/
def pragR (r : List UInt8) : Prop := 4 ≤ r.length ∧ r.head? = some 35 ∧ (r.reverse.drop 2).head? = some 35
theorem prag_open (r : List UInt8) : prag (123 :: 45 :: r) = true ↔ pragR r := by
  unfold prag pragR
  rw [Bool.and_eq_true, Bool.and_eq_true, decide_eq_true_iff, beq_iff_eq, beq_iff_eq]
  simp only [List.length_cons]
  constructor
  · rintro ⟨⟨h1, h2⟩, h3⟩
    refine ⟨by omega, ?_, ?_⟩
    · cases r with
      | nil => simp at h1
      | cons b r =>
        have h2 : b = 35 := h2
        rw [h2]
        rfl
    · rw [List.head?_drop, List.getElem?_reverse (by omega)]
      rw [show r.length + 1 + 1 - 3 = (r.length - 3) + 1 + 1 by omega, List.getD_eq_getElem?_getD, List.getElem?_cons_succ, List.getElem?_cons_succ] at h3
      rw [show r.length - 1 - 2 = r.length - 3 by omega, List.getElem?_eq_getElem (by omega)] at *
      have h3 : r[r.length - 3] = 35 := h3
      rw [h3]
  · rintro ⟨h1, h2, h3⟩
    refine ⟨⟨by omega, ?_⟩, ?_⟩
    · cases r with
      | nil => cases h2
      | cons b r =>
        obtain rfl : b = 35 := by simpa using h2
        rfl
    · rw [List.head?_drop, List.getElem?_reverse (by omega)] at h3
      rw [show r.length + 1 + 1 - 3 = (r.length - 3) + 1 + 1 by omega, List.getD_eq_getElem?_getD, List.getElem?_cons_succ, List.getElem?_cons_succ, show r.length - 3 = r.length - 1 - 2 by omega, h3]
      rfl
theorem pragR_bl {r r' p : List UInt8} (h : Bl r r') (hp : r.reverse = 125 :: 45 :: p) (hr : pragR r) : pragR r' := by
  obtain ⟨h1, h2, h3⟩ := hr
  have hrev := h.reverse
  rw [hp] at hrev
  obtain ⟨y1, hy1, hb1⟩ := hrev.cons (by decide)
  obtain ⟨y2, rfl, hb2⟩ := hb1.cons (by decide)
  rw [hp] at h3
  have h3 : p.head? = some 35 := h3
  refine ⟨?_, h.head 35 (by decide) h2, by rw [hy1]; exact hb2.head 35 (by decide) h3⟩
  cases p with
  | nil => cases h3
  | cons c p =>
    obtain rfl : c = 35 := by simpa using h3
    have hrr : r = p.reverse ++ [35, 45, 125] := by
      have := congrArg List.reverse hp
      rw [List.reverse_reverse] at this
      rw [this]
      simp
    have hpl : p ≠ [] := by
      rintro rfl
      rw [hrr] at h1
      simp at h1
    have hph : p.reverse.head? = some 35 := by
      cases hq : p.reverse with
      | nil => exact absurd (List.reverse_eq_nil_iff.1 hq) hpl
      | cons d q =>
        rw [hrr, hq] at h2
        exact h2
    have hn := h.nbl
    have hl : 4 ≤ (nbl r).length := by
      rw [hrr]
      unfold nbl
      rw [List.filter_append, List.length_append]
      have e : ([35, 45, 125] : List UInt8).filter (fun b => !blk b) = [35, 45, 125] := by decide
      rw [e]
      have : 0 < (p.reverse.filter (fun b => !blk b)).length := by
        apply List.length_pos_of_mem (a := 35)
        exact List.mem_filter.2 ⟨List.mem_of_mem_head? hph, by decide⟩
      simp only [List.length_cons, List.length_nil]
      omega
    rw [hn] at hl
    have : (nbl r').length ≤ r'.length := List.length_filter_le _ _
    omega

theorem keep_kind (n : Nat) (L : List UInt8) (h : kindN L ≠ 0) : kindN (tidyB n L) = kindN L := by
  by_cases ho : opn L = true
  · obtain ⟨r, rfl⟩ := opn_split L ho
    have hs : ∀ r', scanN (123 :: 45 :: r') = if endA 1 0 r' = 0 then (0, 60) else (endA 1 0 r' + 2, 0) := fun r' => rfl
    have hk : ∀ r', r' ≠ [] → endA 1 0 r' = r'.length → kindN (123 :: 45 :: r') = if prag (123 :: 45 :: r') = true then 3 else 2 := by
      intro r' hne he
      have : endA 1 0 r' ≠ 0 := by
        rw [he]
        exact fun e => hne (List.eq_nil_of_length_eq_zero e)
      unfold kindN
      rw [hs, if_neg this, if_neg, if_neg (by simp [opn])]
      dsimp only
      rw [he]
      simp
    have hend : r ≠ [] ∧ endA 1 0 r = r.length := by
      have hle := endA_le r 1 0
      unfold kindN at h
      rw [hs] at h
      by_cases h0 : endA 1 0 r = 0
      · rw [if_pos h0] at h
        exact absurd rfl h
      · rw [if_neg h0] at h
        dsimp only at h
        rw [List.length_cons, List.length_cons] at h
        split at h
        · exact absurd rfl h
        · refine ⟨?_, by omega⟩
          rintro rfl
          exact h0 rfl
    have hacc := (acc_end r 1 0 (by decide)).2 hend
    obtain ⟨p, hp⟩ : ∃ p, r.reverse = 125 :: 45 :: p := by
      rcases acc_last r 1 0 (by decide) hacc with hh | ⟨hh, _⟩
      · exact hh
      · cases hh
    have hlast : ∀ b, (123 :: 45 :: r).getLast? = some b → blk b = false := by
      intro b hb
      have hr : r = (p.reverse ++ [45]) ++ [125] := by
        have := congrArg List.reverse hp
        rw [List.reverse_reverse] at this
        rw [this]
        simp
      rw [hr, ← List.cons_append, ← List.cons_append, List.getLast?_concat] at hb
      obtain rfl : 125 = b := by simpa using hb
      decide
    obtain ⟨a, x1, e1, ka, hbl⟩ := tidy_bl n _ (123 :: 45 :: r) (Nat.le_refl _) (by simp) hlast
    have ha : a = [] := by
      cases a with
      | nil => rfl
      | cons c a =>
        rw [List.cons_append] at e1
        obtain ⟨rfl, _⟩ := List.cons.inj e1
        exact absurd (ka 123 (List.mem_cons_self ..)) (by decide)
    subst ha
    rw [List.nil_append] at e1
    subst e1
    obtain ⟨y1, hy1, hb1⟩ := hbl.cons (by decide)
    obtain ⟨y2, rfl, hb2⟩ := hb1.cons (by decide)
    rw [hy1]
    have hacc2 : acc 1 0 y2 = true := by rw [← hb2.acc]; exact hacc
    have hend2 := (acc_end y2 1 0 (by decide)).1 hacc2
    obtain ⟨p2, hp2⟩ : ∃ p, y2.reverse = 125 :: 45 :: p := by
      rcases acc_last y2 1 0 (by decide) hacc2 with hh | ⟨hh, _⟩
      · exact hh
      · cases hh
    rw [hk r hend.1 hend.2, hk y2 hend2.1 hend2.2]
    have hiff : prag (123 :: 45 :: y2) = true ↔ prag (123 :: 45 :: r) = true := by
      rw [prag_open, prag_open]
      exact ⟨pragR_bl hb2.symm hp2, pragR_bl hb2 hp⟩
    by_cases hpr : prag (123 :: 45 :: r) = true
    · rw [if_pos hpr, if_pos (hiff.2 hpr)]
    · rw [if_neg hpr, if_neg (fun e => hpr (hiff.1 e))]
  · have h1 : kindN L = 1 := by
      unfold kindN at h ⊢
      split
      · rename_i hh
        rw [if_pos hh] at h
        exact absurd rfl h
      · rw [if_pos (by simpa using ho)]
    rw [h1]
    exact keep_row n L h1

/-! ### Laid anew it is clean -/

/-- A tab, a newline that is not 10, or a space at a line's end. -/
def bad (b : UInt8) (r : List UInt8) : Bool := b == 9 || (decide (11 ≤ b.toNat) && decide (b.toNat ≤ 13)) || (b == 32 && (r.isEmpty || r.head? == some 10))
def clean : List UInt8 → Bool
  | [] => true
  | b :: r => !bad b r && clean r
theorem clean_line (y : List UInt8) (hy : y = [] ∨ y.head? = some 10) (hc : clean y = true) : ∀ (l : List UInt8), (∀ b ∈ l, blk b = true → b = 32) → (∀ b, l.getLast? = some b → blk b = false) → clean (l ++ y) = true
  | [], _, _ => hc
  | b :: l, h1, h2 => by
    rw [List.cons_append, clean, Bool.and_eq_true]
    have ht : ∀ c, l.getLast? = some c → blk c = false := by
      intro c hc
      apply h2
      rw [List.getLast?_cons, hc]
      rfl
    refine ⟨?_, clean_line y hy hc l (fun c hc => h1 c (List.mem_cons_of_mem _ hc)) ht⟩
    cases hb : blk b with
    | false =>
      have := byte_all (fun b => blk b || (b != 9 && !(decide (11 ≤ b.toNat) && decide (b.toNat ≤ 13)) && b != 32)) (by decide +kernel) b
      rw [hb] at this
      simp at this
      unfold bad
      simp [this.1.1, this.2]
      exact this.1.2
    | true =>
      have hb32 := h1 b (List.mem_cons_self ..) hb
      subst hb32
      cases l with
      | nil =>
        have := h2 32 rfl
        rw [hb] at this
        cases this
      | cons c l =>
        have hc10 : c ≠ 10 := by
          rintro rfl
          have := h1 10 (by simp) (by decide)
          revert this
          decide
        unfold bad
        simp [hc10]
theorem clean_tail (n : Nat) : ∀ (ls : List (List UInt8)), (∀ m ∈ ls, Bare m) → clean (tailB n ls) = true ∧ (tailB n ls = [] ∨ (tailB n ls).head? = some 10)
  | [], _ => ⟨rfl, .inl rfl⟩
  | m :: ls, h => by
    obtain ⟨c1, c2⟩ := clean_tail n ls (fun k hk => h k (List.mem_cons_of_mem _ hk))
    have hm := h m (List.mem_cons_self ..)
    refine ⟨?_, .inr rfl⟩
    rw [tailB, clean, show bad 10 _ = false from by simp [bad], Bool.not_false, Bool.true_and]
    split
    · rw [List.nil_append]
      exact c1
    · rename_i hne
      apply clean_line _ c2 c1
      · intro b hb hk
        rcases List.mem_append.1 hb with hb | hb
        · exact (List.mem_replicate.1 hb).2
        · exact hm.1 b hb hk
      · intro b hb
        rw [List.getLast?_append] at hb
        cases hl : m.getLast? with
        | none => exact absurd (List.getLast?_eq_none_iff.1 hl) hne
        | some c =>
          rw [hl] at hb
          obtain rfl : c = b := by simpa using hb
          exact hm.2.2 c hl
theorem clean_tidy (n : Nat) (x : List UInt8) : clean (tidyB n x) = true := by
  have h := barL_bare x
  unfold tidyB
  cases hb : barL x with
  | nil => exact absurd hb (barL_ne x)
  | cons l ls =>
    rw [hb] at h
    obtain ⟨c1, c2⟩ := clean_tail n ls (fun k hk => h k (List.mem_cons_of_mem _ hk))
    have hl := h l (List.mem_cons_self ..)
    exact clean_line _ c2 c1 l hl.1 hl.2.2
theorem clean_at : ∀ (t : List UInt8) (i : Nat) (b : UInt8), clean t = true → t[i]? = some b → bad b (t.drop (i + 1)) = false
  | [], _, _, _, h => by simp at h
  | c :: t, 0, b, hc, h => by
    obtain rfl : c = b := by simpa using h
    rw [clean, Bool.and_eq_true] at hc
    simpa using hc.1
  | c :: t, i + 1, b, hc, h => by
    rw [clean, Bool.and_eq_true] at hc
    rw [List.getElem?_cons_succ] at h
    exact clean_at t i b hc.2 h

/-! ### How long they are -/

def total : List (List UInt8) → Nat
  | [] => 0
  | l :: ls => l.length + total ls
theorem tail_len (n : Nat) : ∀ (ls : List (List UInt8)), (tailB n ls).length ≤ ls.length * (n + 1) + total ls
  | [] => Nat.zero_le _
  | l :: ls => by
    have := tail_len n ls
    rw [tailB, List.length_cons, List.length_append, total, List.length_cons, Nat.succ_mul]
    split <;> simp only [List.length_append, List.length_replicate, List.length_nil] <;> omega
theorem total_consH (b : UInt8) (L : List (List UInt8)) : total (consH b L) = total L + 1 := by
  cases L with
  | nil => rfl
  | cons h t =>
    show (b :: h).length + total t = h.length + total t + 1
    rw [List.length_cons]
    omega
theorem len_consH (b : UInt8) (L : List (List UInt8)) : (consH b L).length ≤ L.length + 1 := by
  cases L <;> simp [consH]
theorem lines_total : ∀ (x : List UInt8) (p : Bool), total (linesG p x) ≤ x.length ∧ (linesG p x).length ≤ x.length + 1
  | [], p => ⟨Nat.le_refl _, Nat.le_refl _⟩
  | b :: r, p => by
    rw [linesG, List.length_cons]
    split
    · have := lines_total r false
      omega
    · split
      · have := lines_total r (b == 13)
        rw [total, List.length_cons]
        simp only [List.length_nil]
        omega
      · have h1 := lines_total r false
        have h2 := linesG_ne false r
        cases hl : linesG false r with
        | nil => exact absurd hl h2
        | cons h t =>
          rw [hl] at h1
          rw [total_consH]
          simp only [consH, List.length_cons] at h1 ⊢
          omega
theorem total_bare : ∀ (L : List (List UInt8)), total (L.map bareB) ≤ total L
  | [] => Nat.le_refl _
  | l :: ls => by
    have h1 := total_bare ls
    have h2 := bareB_le l
    rw [List.map_cons, total, total]
    omega
theorem tidy_len (n : Nat) (x : List UInt8) : (tidyB n x).length ≤ (x.length + 1) * (n + 1) + x.length := by
  have h1 := lines_total x false
  have h2 := total_bare (linesB x)
  unfold tidyB
  cases hb : barL x with
  | nil => exact absurd hb (barL_ne x)
  | cons l ls =>
    have h3 := tail_len n ls
    have h4 : (barL x).length = (linesB x).length := by unfold barL; rw [List.length_map]
    unfold barL at hb h4
    rw [hb] at h2 h4
    rw [total] at h2
    rw [List.length_cons] at h4
    rw [joinB, List.length_append]
    have h5 : ls.length * (n + 1) ≤ (x.length + 1) * (n + 1) := Nat.mul_le_mul_right _ (by unfold linesB at h4; omega)
    unfold linesB at h2
    omega
theorem total_mem : ∀ (L : List (List UInt8)) (l : List UInt8), l ∈ L → l.length ≤ total L
  | [], _, h => nomatch h
  | m :: L, l, h => by
    rw [total]
    rcases List.mem_cons.1 h with rfl | h
    · omega
    · have := total_mem L l h
      omega
end Go.Proofs.YtcbjcgbfdniieaaDoor.Not
