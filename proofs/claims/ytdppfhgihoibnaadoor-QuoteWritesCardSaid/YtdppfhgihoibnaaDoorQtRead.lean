/-
  How a literal is read, piece by piece: what a piece is, what its bytes may be, that it hangs on them and on the byte behind alone; a literal is its quote, its pieces and its quote; read anew by itself, or with other gaps, it has the same pieces. No program is run here.
-/
import Derived.Test.YtdppfhgihoibnaaDoorQtMath
namespace Go.Proofs.YtdppfhgihoibnaaDoor.Qt
open Go.Lib Gly
open Wrd (rn wd)

/-- How many bytes the gap has that a row begins with, its backslash the first; 0: none. -/
def gapN (L : List UInt8) : Nat := if Wrd.run blkP (L.drop 1) ≠ 0 ∧ hd (L.drop (1 + Wrd.run blkP (L.drop 1))) = 92 then Wrd.run blkP (L.drop 1) + 2 else 0
/-- May a rune of that many bytes stand for itself? -/
def mayB (c : Int) (n : Nat) : Bool := if c = 65533 ∧ n = 1 then false else if classI c = 0 then false else if classI c = 1 then decide (c = 32) else true
/-- A piece: its form (0 a character, 1 nothing, 2 a gap), its number, its bytes. -/
structure Pc where
  form : Nat
  num : Nat
  bytes : List UInt8
/-- The piece that a row begins with, or what is wrong. -/
def pieceL (L : List UInt8) : Except Int Pc :=
  if hd L = 92 then
    (if hd (L.drop 1) = 38 then .ok ⟨1, 0, L.take 2⟩
    else if gapN L ≠ 0 then .ok ⟨2, 0, L.take (gapN L)⟩
    else if (escE (L.drop 1)).2 = 0 ∨ 1114111 < (escE (L.drop 1)).1 then .error 51
    else .ok ⟨0, (escE (L.drop 1)).1, L.take (1 + (escE (L.drop 1)).2)⟩)
  else if L ≠ [] ∧ mayB (rn L) (wd L) = true then .ok ⟨0, (rn L).toNat, L.take (wd L)⟩
  else .error 50

theorem run_blk_le (L : List UInt8) : Wrd.run blkP L ≤ L.length := Wrd.run_le blkP L.length L (Nat.le_refl _)
theorem run_blk_zero (L : List UInt8) : Wrd.run blkP L = 0 ↔ L = [] ∨ blkP (rn L) = false := by
  constructor
  · intro h
    by_cases hn : L = []
    · exact .inl hn
    · refine .inr ?_
      cases hb : blkP (rn L) with
      | false => rfl
      | true =>
        have h1 := Wrd.run_pos blkP L hn hb
        have h2 := Wrd.wd_pos L
        omega
  · exact Wrd.run_stop blkP L
theorem gap_cases (L : List UInt8) : gapN L = 0 ∨ (∃ k, gapN L = k + 2 ∧ 1 ≤ k ∧ Wrd.run blkP (L.drop 1) = k ∧ hd (L.drop (1 + k)) = 92 ∧ k + 2 ≤ L.length) := by
  unfold gapN
  split
  · rename_i h
    refine .inr ⟨_, rfl, by omega, rfl, h.2, ?_⟩
    rcases Nat.lt_or_ge (1 + Wrd.run blkP (L.drop 1)) L.length with q | q
    · omega
    · have := h.2
      rw [List.drop_eq_nil_of_le q] at this
      simp [hd] at this
  · exact .inl rfl
/-- What kinds of piece there are. -/
theorem piece_cases (L : List UInt8) (p : Pc) (h : pieceL L = .ok p) :
    (hd L = 92 ∧ hd (L.drop 1) = 38 ∧ p = ⟨1, 0, L.take 2⟩) ∨
    (hd L = 92 ∧ hd (L.drop 1) ≠ 38 ∧ gapN L ≠ 0 ∧ p = ⟨2, 0, L.take (gapN L)⟩) ∨
    (hd L = 92 ∧ hd (L.drop 1) ≠ 38 ∧ gapN L = 0 ∧ (escE (L.drop 1)).2 ≠ 0 ∧ (escE (L.drop 1)).1 ≤ 1114111 ∧ p = ⟨0, (escE (L.drop 1)).1, L.take (1 + (escE (L.drop 1)).2)⟩) ∨
    (hd L ≠ 92 ∧ L ≠ [] ∧ mayB (rn L) (wd L) = true ∧ p = ⟨0, (rn L).toNat, L.take (wd L)⟩) := by
  unfold pieceL at h
  split at h
  · rename_i h1
    split at h
    · rename_i h2
      injection h with h
      exact .inl ⟨h1, h2, h.symm⟩
    · rename_i h2
      split at h
      · rename_i h3
        injection h with h
        exact .inr (.inl ⟨h1, h2, h3, h.symm⟩)
      · rename_i h3
        split at h
        · cases h
        · rename_i h4
          injection h with h
          exact .inr (.inr (.inl ⟨h1, h2, by omega, by omega, by omega, h.symm⟩))
  · rename_i h1
    split at h
    · rename_i h2
      injection h with h
      exact .inr (.inr (.inr ⟨h1, h2.1, h2.2, h.symm⟩))
    · cases h
theorem len_of_hd (L : List UInt8) (n k : Nat) (h : hd (L.drop k) = n) (hn : n < 256) : k + 1 ≤ L.length := by
  rcases Nat.lt_or_ge k L.length with q | q
  · omega
  · rw [List.drop_eq_nil_of_le q] at h
    simp only [hd] at h
    omega
/-- A piece has at least one byte; its bytes are the row's first ones. -/
theorem piece_len (L : List UInt8) (p : Pc) (h : pieceL L = .ok p) : 1 ≤ p.bytes.length ∧ p.bytes.length ≤ L.length ∧ p.bytes = L.take p.bytes.length := by
  have key : ∀ n, 1 ≤ n → n ≤ L.length → p.bytes = L.take n → 1 ≤ p.bytes.length ∧ p.bytes.length ≤ L.length ∧ p.bytes = L.take p.bytes.length := by
    intro n h1 h2 h3
    have hl : p.bytes.length = n := by rw [h3, List.length_take]; omega
    rw [hl]
    exact ⟨h1, h2, h3⟩
  rcases piece_cases L p h with ⟨h1, h2, rfl⟩ | ⟨h1, h2, h3, rfl⟩ | ⟨h1, h2, h3, h4, h5, rfl⟩ | ⟨h1, h2, h3, rfl⟩
  · exact key 2 (by omega) (len_of_hd L 38 1 h2 (by omega)) rfl
  · rcases gap_cases L with q | ⟨k, q1, q2, q3, q4, q5⟩
    · exact absurd q h3
    · exact key _ (by omega) (by omega) rfl
  · have := (escE_bytes _ h4).1
    rw [List.length_drop] at this
    exact key _ (by omega) (by omega) rfl
  · exact key _ (Wrd.wd_pos L) (Wrd.wd_le L h2) rfl
theorem piece_num (L : List UInt8) (p : Pc) (h : pieceL L = .ok p) : p.num ≤ 1114111 ∧ p.form ≤ 2 := by
  rcases piece_cases L p h with ⟨h1, h2, rfl⟩ | ⟨h1, h2, h3, rfl⟩ | ⟨h1, h2, h3, h4, h5, rfl⟩ | ⟨h1, h2, h3, rfl⟩
  · exact ⟨by dsimp only; omega, by dsimp only; omega⟩
  · exact ⟨by dsimp only; omega, by dsimp only; omega⟩
  · exact ⟨h5, by dsimp only; omega⟩
  · refine ⟨?_, by dsimp only; omega⟩
    dsimp only
    have : rn L ≤ 1114111 := by
      unfold rn
      rw [decodeL_N]
      have k0 := (L.getD 0 0).toNat_lt
      rcases decodeN_shape L.length (L.getD 0 0).toNat (L.getD 1 0).toNat (L.getD 2 0).toNat (L.getD 3 0).toNat with ⟨c, e⟩ | ⟨c1, c2, c3, cv, e⟩ | ⟨c1, c2, c3, c4, cv, cs, e⟩ | ⟨c1, c2, c3, c4, c5, cv, cw, e⟩ | e
      all_goals rw [e]
      all_goals dsimp only
      all_goals omega
    omega
theorem piece_err (L : List UInt8) (x : Int) (h : pieceL L = .error x) : x = 50 ∨ x = 51 := by
  unfold pieceL at h
  split at h
  · split at h
    · cases h
    · split at h
      · cases h
      · split at h
        · injection h with h
          omega
        · cases h
  · split at h
    · cases h
    · injection h with h
      omega
/-- A gap hangs on its own bytes. -/
theorem gap_same (L R : List UInt8) (h : gapN L ≠ 0) : gapN (L.take (gapN L) ++ R) = gapN L := by
  rcases gap_cases L with q | ⟨k, q1, q2, q3, q4, q5⟩
  · exact absurd q h
  · rw [q1]
    obtain ⟨y, t, rfl, -⟩ := hd_lt L (by intro e; cases L with | nil => simp at q5 | cons y t => have := y.toNat_lt; simp only [hd] at e; omega)
    rw [List.drop_succ_cons, List.drop_zero] at q3
    rw [Nat.add_comm 1 k, List.drop_succ_cons] at q4
    obtain ⟨z, u, hz, hz2⟩ := hd_cons _ _ q4 (by omega)
    have hl : k ≤ t.length := by rw [List.length_cons] at q5; omega
    have ht : t = t.take k ++ z :: u := by rw [← hz, List.take_append_drop]
    have hM : ((y :: t).take (k + 2) ++ R).drop 1 = t.take k ++ z :: R := by
      conv => lhs; rw [ht]
      rw [List.take_succ_cons, List.cons_append, List.drop_succ_cons, List.drop_zero, List.take_append, List.length_take, Nat.min_eq_left hl, List.take_take, Nat.min_eq_right (by omega)]
      rw [show k + 1 - k = 1 by omega]
      simp
    have hlk : (t.take k).length = k := by rw [List.length_take]; omega
    have hdr : (t.take k ++ z :: R).drop k = z :: R := by
      conv => lhs; arg 1; rw [← hlk]
      exact List.drop_left
    have hrun : Wrd.run blkP (t.take k ++ z :: R) = k := by
      rw [← q3]
      refine Wrd.run_same blkP blk_bad t.length t _ (Nat.le_refl _) ?_ ?_ (.inr ?_)
      · rw [q3, List.take_append_of_le_length (by omega), List.take_take, Nat.min_self]
      · rw [q3, List.length_append, hlk]
        omega
      · rw [q3, hdr, (rn_ascii z R (by omega)).1, hz2]
        exact blk_slash
    unfold gapN
    rw [hM, hrun, Nat.add_comm 1 k, if_pos]
    refine ⟨by omega, ?_⟩
    have : ((y :: t).take (k + 2) ++ R).drop (k + 1) = z :: R := by
      rw [Nat.add_comm k 1, ← List.drop_drop, hM, hdr]
    rw [this]
    exact hz2
theorem gap_head (L : List UInt8) (h : gapN L ≠ 0) : blkP ((hd (L.drop 1) : Nat) : Int) = true ∧ hd (L.drop 1) ≤ 32 := by
  rcases gap_cases L with q | ⟨k, q1, q2, q3, q4, q5⟩
  · exact absurd q h
  · have hne : L.drop 1 ≠ [] := by
      intro e
      have := congrArg List.length e
      rw [List.length_drop] at this
      simp at this
      omega
    cases hb : blkP (rn (L.drop 1)) with
    | false => rw [(run_blk_zero _).2 (.inr hb)] at q3; omega
    | true =>
      obtain ⟨e, -⟩ := blk_head _ hb hne
      have := blk_small _ hb
      rw [e]
      exact ⟨hb, by omega⟩
theorem gap_none (L : List UInt8) (h1 : 34 ≤ hd (L.drop 1)) (h2 : hd (L.drop 1) < 128) : gapN L = 0 := by
  rcases Nat.eq_zero_or_pos (gapN L) with h | h
  · exact h
  · have := (gap_head L (by omega)).2
    omega
/-- A piece hangs on its own bytes and on the byte behind. -/
theorem piece_same (L R : List UInt8) (p : Pc) (h : pieceL L = .ok p) (hr : hd R = hd (L.drop p.bytes.length)) : pieceL (p.bytes ++ R) = .ok p := by
  obtain ⟨l1, l2, l3⟩ := piece_len L p h
  have e0 : hd (p.bytes ++ R) = hd L := by rw [l3]; exact hd_at L R _ 0 l2 (Nat.zero_le _) hr
  have e1 : hd ((p.bytes ++ R).drop 1) = hd (L.drop 1) := by rw [l3]; exact hd_at L R _ 1 l2 l1 hr
  rcases piece_cases L p h with ⟨h1, h2, rfl⟩ | ⟨h1, h2, h3, rfl⟩ | ⟨h1, h2, h3, h4, h5, rfl⟩ | ⟨h1, h2, h3, rfl⟩
  · unfold pieceL
    dsimp only at *
    rw [e0, if_pos h1, e1, if_pos h2]
    have hl : (L.take 2).length = 2 := by rw [List.length_take]; have := len_of_hd L 38 1 h2 (by omega); omega
    rw [List.take_append_of_le_length (by omega), List.take_take]
    rfl
  · unfold pieceL
    dsimp only at *
    have hg := gap_same L R h3
    rw [e0, if_pos h1, e1, if_neg h2, hg, if_pos h3]
    have hl : (L.take (gapN L)).length = gapN L := by
      rcases gap_cases L with q | ⟨k, q1, q2, q3, q4, q5⟩
      · exact absurd q h3
      · rw [List.length_take]; omega
    rw [List.take_append_of_le_length (by omega), List.take_take, Nat.min_self]
  · dsimp only at *
    obtain ⟨b1, b2, b3, b4, b5⟩ := escE_bytes _ h4
    obtain ⟨y, t, rfl, -⟩ := hd_cons L 92 h1 (by omega)
    rw [List.drop_succ_cons, List.drop_zero] at *
    have hl : ((y :: t).take (1 + (escE t).2)).length = 1 + (escE t).2 := by rw [List.length_take, List.length_cons]; omega
    rw [hl, Nat.add_comm 1, List.drop_succ_cons] at hr
    have hM : (y :: t).take (1 + (escE t).2) ++ R = y :: (t.take (escE t).2 ++ R) := by rw [Nat.add_comm 1, List.take_succ_cons, List.cons_append]
    rw [hM] at e0 e1 ⊢
    rw [List.drop_succ_cons, List.drop_zero] at e1
    have hg : gapN (y :: (t.take (escE t).2 ++ R)) = 0 := gap_none _ (by rw [List.drop_succ_cons, List.drop_zero, e1]; exact b3) (by rw [List.drop_succ_cons, List.drop_zero, e1]; omega)
    unfold pieceL
    rw [List.drop_succ_cons, List.drop_zero, e0, if_pos h1, e1, if_neg h2, hg, if_neg (by omega), escE_same t R h4 hr, if_neg (by omega)]
    have hx : (y :: (t.take (escE t).2 ++ R)).take (1 + (escE t).2) = (y :: t).take (1 + (escE t).2) := by
      rw [Nat.add_comm 1, List.take_succ_cons, List.take_succ_cons, List.take_append_of_le_length (by rw [List.length_take]; omega), List.take_take, Nat.min_self]
    rw [hx]
  · dsimp only at *
    have hl : (L.take (wd L)).length = wd L := by rw [List.length_take]; have := Wrd.wd_le L h2; omega
    have hbad : decodeL L ≠ (65533, 1) := by
      intro e
      unfold rn wd at h3
      rw [e] at h3
      exact absurd h3 (by decide +kernel)
    have htk : (L.take (wd L) ++ R).take (wd L) = L.take (wd L) := by rw [List.take_append_of_le_length (by omega), List.take_take, Nat.min_self]
    have hd' := dec_same L (L.take (wd L) ++ R) hbad (by rw [List.length_append]; omega) htk
    have hrn : rn (L.take (wd L) ++ R) = rn L := by unfold rn; rw [hd']
    have hwd : wd (L.take (wd L) ++ R) = wd L := by unfold wd at hd' ⊢; rw [hd']
    unfold pieceL
    rw [e0, if_neg h1, hrn, hwd, if_pos ⟨by intro e; have h8 := congrArg List.length e; rw [List.length_append, hl, List.length_nil] at h8; have := Wrd.wd_pos L; omega, h3⟩, htk]

/-- A gap made narrow. -/
def narrow (p : Pc) : Pc := if p.form = 2 then ⟨2, 0, [92, 32, 92]⟩ else p
theorem narrow_gap (R : List UInt8) : pieceL ([92, 32, 92] ++ R) = .ok ⟨2, 0, [92, 32, 92]⟩ := by
  have h1 : Wrd.run blkP (32 :: 92 :: R) = 1 := by
    rw [Wrd.run_step blkP _ (by simp) (by rw [(rn_ascii 32 _ (by decide)).1]; exact blk_space), (rn_ascii 32 _ (by decide)).2]
    rw [List.drop_succ_cons, List.drop_zero, Wrd.run_stop blkP _ (.inr (by rw [(rn_ascii 92 _ (by decide)).1]; exact blk_slash))]
  have h2 : gapN (92 :: 32 :: 92 :: R) = 3 := by
    unfold gapN
    rw [List.drop_succ_cons, List.drop_zero, h1]
    rfl
  show pieceL (92 :: 32 :: 92 :: R) = _
  unfold pieceL
  rw [h2]
  rfl
theorem narrow_same (L R : List UInt8) (p : Pc) (h : pieceL L = .ok p) (hr : hd R = hd (L.drop p.bytes.length)) : pieceL ((narrow p).bytes ++ R) = .ok (narrow p) := by
  unfold narrow
  by_cases q : p.form = 2
  · rw [if_pos q]
    exact narrow_gap R
  · rw [if_neg q]
    exact piece_same L R p h hr
theorem piece_head (L : List UInt8) (p : Pc) (h : pieceL L = .ok p) : hd p.bytes = hd L ∧ p.bytes ≠ [] := by
  obtain ⟨l1, l2, l3⟩ := piece_len L p h
  refine ⟨by rw [l3]; exact hd_take L _ (by omega), ?_⟩
  intro e
  rw [e] at l1
  simp at l1
theorem narrow_head (L : List UInt8) (p : Pc) (h : pieceL L = .ok p) : hd (narrow p).bytes = hd L ∧ (narrow p).bytes ≠ [] := by
  unfold narrow
  by_cases q : p.form = 2
  · rw [if_pos q]
    refine ⟨?_, by simp⟩
    rcases piece_cases L p h with ⟨h1, h2, rfl⟩ | ⟨h1, h2, h3, rfl⟩ | ⟨h1, h2, h3, h4, h5, rfl⟩ | ⟨h1, h2, h3, rfl⟩
    · simp at q
    · rw [h1]
      rfl
    · simp at q
    · simp at q
  · rw [if_neg q]
    exact piece_head L p h
theorem mayB_ascii (c : Int) (n : Nat) (h : mayB c n = true) : 32 ≤ c := by
  unfold mayB at h
  split at h
  · cases h
  · split at h
    · cases h
    · rename_i h0
      split at h
      · have := of_decide_eq_true h
        omega
      · rename_i h1
        by_cases q : 32 ≤ c
        · exact q
        · exfalso
          unfold classI blankB smallB largeB decB specB quotB symbB nothB wthn at h0 h1
          simp only [Bool.or_eq_true, Bool.and_eq_true, decide_eq_true_eq, beq_iff_eq, bne_iff_ne] at h0 h1
          repeat' split at h1
          all_goals first | omega | (repeat' split at h0) 
          all_goals omega
/-- No byte of a piece that is no gap is below 32; nor of one whose gap is narrow. -/
theorem narrow_bytes (L : List UInt8) (p : Pc) (h : pieceL L = .ok p) : ∀ x ∈ (narrow p).bytes, 32 ≤ x.toNat := by
  intro x hx
  unfold narrow at hx
  by_cases q : p.form = 2
  · rw [if_pos q] at hx
    simp only [List.mem_cons, List.not_mem_nil, or_false] at hx
    rcases hx with rfl | rfl | rfl <;> decide
  · rw [if_neg q] at hx
    rcases piece_cases L p h with ⟨h1, h2, rfl⟩ | ⟨h1, h2, h3, rfl⟩ | ⟨h1, h2, h3, h4, h5, rfl⟩ | ⟨h1, h2, h3, rfl⟩
    · obtain ⟨y, t, rfl, hy⟩ := hd_cons L 92 h1 (by omega)
      rw [List.drop_succ_cons, List.drop_zero] at h2
      obtain ⟨z, u, rfl, hz⟩ := hd_cons t 38 h2 (by omega)
      simp only [List.take_succ_cons, List.take_zero, List.mem_cons, List.not_mem_nil, or_false] at hx
      rcases hx with rfl | rfl <;> omega
    · exact absurd rfl q
    · dsimp only at hx
      obtain ⟨y, t, rfl, hy⟩ := hd_cons L 92 h1 (by omega)
      rw [List.drop_succ_cons, List.drop_zero] at *
      rw [Nat.add_comm 1, List.take_succ_cons, List.mem_cons] at hx
      rcases hx with rfl | hx
      · omega
      · have := (escE_bytes t h4).2.1 x hx
        omega
    · dsimp only at hx
      have hm := mayB_ascii _ _ h3
      by_cases q : rn L < 128
      · obtain ⟨w1, w2⟩ := ascii_rn L q
        rw [w1] at hx
        cases L with
        | nil => exact absurd rfl h2
        | cons y t =>
          simp only [List.take_succ_cons, List.take_zero, List.mem_cons, List.not_mem_nil, or_false] at hx
          subst hx
          have : (List.getD (x :: t) 0 0) = x := rfl
          rw [this] at w2
          omega
      · have := rn_wide L (by omega) (by
          intro e
          unfold rn wd at h3
          rw [e] at h3
          exact absurd h3 (by decide +kernel)) x hx
        omega
end Go.Proofs.YtdppfhgihoibnaaDoor.Qt
