/-
  A literal as its pieces: what is read of a row that begins with a quote; a literal by itself, or with narrow gaps, has the same pieces; what characters are written as has these characters. No program is run here.
-/
import Derived.Test.YtdppfhgihoibnaaDoorQtRead
import Derived.Test.YtdppfhgihoibnaaDoorNumNum
namespace Go.Proofs.YtdppfhgihoibnaaDoor.Qt
open Go.Lib Gly
open Wrd (rn wd)

/-- What has been read: the pieces, where it ends (or where the error is), the error. -/
structure Rd where
  ps : List Pc
  pos : Nat
  err : Int
/-- The pieces of a text up to its quote; f: more rounds than there are bytes. -/
def txtL : Nat → List UInt8 → Rd
  | 0, _ => ⟨[], 0, 50⟩
  | f + 1, L =>
    if hd L = 34 then ⟨[], 1, 0⟩
    else match pieceL L with
      | .error e => ⟨[], 0, e⟩
      | .ok p => ⟨p :: (txtL f (L.drop p.bytes.length)).ps, p.bytes.length + (txtL f (L.drop p.bytes.length)).pos, (txtL f (L.drop p.bytes.length)).err⟩
/-- A character up to its quote. -/
def chrL (L : List UInt8) : Rd :=
  if hd L = 39 then ⟨[], 0, 50⟩
  else match pieceL L with
    | .error e => ⟨[], 0, e⟩
    | .ok p => if p.form ≠ 0 then ⟨[], 0, 51⟩ else if hd (L.drop p.bytes.length) = 39 then ⟨[p], p.bytes.length + 1, 0⟩ else ⟨[], p.bytes.length, 50⟩
def readL (L : List UInt8) : Rd := if hd L = 39 then chrL (L.drop 1) else txtL L.length (L.drop 1)
def quoted (L : List UInt8) : Bool := hd L == 34 || hd L == 39
/-- Scan's answers at a row that begins at byte n. -/
def scanL (n : Nat) (L : List UInt8) : Int × Int × Int :=
  if quoted L = true then ((if (readL L).err = 0 then (if hd L = 39 then 13 else 14) else 0), ((n + 1 + (readL L).pos : Nat) : Int), (readL L).err) else (0, 0, 0)
/-- The error of a row that is to be a literal. -/
def wholeL (L : List UInt8) : Int := if quoted L = true then (if (readL L).err = 0 ∧ 1 + (readL L).pos < L.length then 50 else (readL L).err) else 50
def chs (ps : List Pc) : List Nat := (ps.filter fun p => p.form == 0).map Pc.num
def flat (ps : List Pc) : List UInt8 := ps.flatMap Pc.bytes
def runesL (L : List UInt8) : List Nat := if wholeL L = 0 then chs (readL L).ps else []
def plainL (L : List UInt8) : List UInt8 := if wholeL L = 0 then L.take 1 ++ (flat ((readL L).ps.map narrow) ++ L.take 1) else []

theorem flat_cons (p : Pc) (ps : List Pc) : flat (p :: ps) = p.bytes ++ flat ps := rfl
theorem flat_app (ps qs : List Pc) : flat (ps ++ qs) = flat ps ++ flat qs := by unfold flat; rw [List.flatMap_append]
theorem chs_app (ps qs : List Pc) : chs (ps ++ qs) = chs ps ++ chs qs := by unfold chs; rw [List.filter_append, List.map_append]
theorem chs_cons (p : Pc) (ps : List Pc) : chs (p :: ps) = (if p.form = 0 then [p.num] else []) ++ chs ps := by
  unfold chs
  by_cases h : p.form = 0
  · rw [if_pos h, List.filter_cons_of_pos (by rw [beq_iff_eq]; exact h)]
    rfl
  · rw [if_neg h, List.filter_cons_of_neg (by rw [beq_iff_eq]; exact h)]
    rfl
theorem chs_len : ∀ ps : List Pc, (chs ps).length ≤ ps.length := fun ps => by
  unfold chs
  rw [List.length_map]
  exact List.length_filter_le _ _

/-- A text's pieces, and what stands behind its quote. -/
inductive Txt : List UInt8 → List Pc → List UInt8 → Prop
  | last (r : List UInt8) : Txt (34 :: r) [] r
  | more {L r : List UInt8} {p : Pc} {ps : List Pc} (h0 : hd L ≠ 34) (h1 : pieceL L = .ok p) (h2 : Txt (L.drop p.bytes.length) ps r) : Txt L (p :: ps) r
theorem Txt.flat {L r : List UInt8} {ps : List Pc} (h : Txt L ps r) : L = Qt.flat ps ++ 34 :: r := by
  induction h with
  | last r => rfl
  | @more L r p ps h0 h1 h2 ih =>
    obtain ⟨l1, l2, l3⟩ := piece_len L p h1
    rw [flat_cons, List.append_assoc, ← ih]
    conv => rhs; arg 1; rw [l3]
    rw [List.take_append_drop]
theorem Txt.of_read : ∀ (f : Nat) (L : List UInt8), (txtL f L).err = 0 → Txt L (txtL f L).ps (L.drop (txtL f L).pos) ∧ (txtL f L).pos = (Qt.flat (txtL f L).ps).length + 1 := by
  intro f
  induction f with
  | zero =>
    intro L h
    exact absurd h (by show ¬ ((50 : Int) = 0); decide)
  | succ f ih =>
    intro L h
    unfold txtL at h ⊢
    by_cases q : hd L = 34
    · rw [if_pos q]
      obtain ⟨y, t, rfl, hy⟩ := hd_cons L 34 q (by omega)
      obtain rfl : y = 34 := UInt8.toNat_inj.1 hy
      exact ⟨.last _, rfl⟩
    · rw [if_neg q] at h ⊢
      cases hp : pieceL L with
      | error e =>
        rw [hp] at h
        dsimp only at h
        have := piece_err L e hp
        omega
      | ok p =>
        rw [hp] at h
        dsimp only at h ⊢
        obtain ⟨i1, i2⟩ := ih _ h
        rw [List.drop_drop] at i1
        refine ⟨.more q hp i1, ?_⟩
        rw [i2, flat_cons, List.length_append]
        omega
theorem Txt.read {L r : List UInt8} {ps : List Pc} (h : Txt L ps r) : ∀ f, L.length ≤ f → txtL f L = ⟨ps, (Qt.flat ps).length + 1, 0⟩ := by
  induction h with
  | last r =>
    intro f hf
    cases f with
    | zero => simp at hf
    | succ f => rfl
  | @more L r p ps h0 h1 h2 ih =>
    intro f hf
    obtain ⟨l1, l2, l3⟩ := piece_len L p h1
    cases f with
    | zero => omega
    | succ f =>
      unfold txtL
      rw [if_neg h0, h1]
      dsimp only
      rw [ih f (by rw [List.length_drop]; omega), flat_cons, List.length_append]
      congr 1
theorem Txt.bytes {L r : List UInt8} {ps : List Pc} (h : Txt L ps r) : ∀ x ∈ Qt.flat (ps.map narrow), 32 ≤ x.toNat := by
  induction h with
  | last r => intro x hx; simp [Qt.flat] at hx
  | @more L r p ps h0 h1 h2 ih =>
    intro x hx
    rw [List.map_cons, flat_cons, List.mem_append] at hx
    rcases hx with hx | hx
    · exact narrow_bytes L p h1 x hx
    · exact ih x hx
/-- A text with other pieces in the place of its own, each read as it stands and begun with the same byte. -/
theorem Txt.turn (g : Pc → Pc) (hg : ∀ L R p, pieceL L = .ok p → hd R = hd (L.drop p.bytes.length) → pieceL ((g p).bytes ++ R) = .ok (g p)) (hh : ∀ L p, pieceL L = .ok p → hd (g p).bytes = hd L ∧ (g p).bytes ≠ [])
    {L r : List UInt8} {ps : List Pc} (h : Txt L ps r) (r' : List UInt8) : Txt (Qt.flat (ps.map g) ++ 34 :: r') (ps.map g) r' ∧ hd (Qt.flat (ps.map g) ++ 34 :: r') = hd L := by
  induction h with
  | last r => exact ⟨.last r', rfl⟩
  | @more L r p ps h0 h1 h2 ih =>
    obtain ⟨i1, i2⟩ := ih
    obtain ⟨k1, k2⟩ := hh L p h1
    have e : Qt.flat ((p :: ps).map g) ++ 34 :: r' = (g p).bytes ++ (Qt.flat (ps.map g) ++ 34 :: r') := by rw [List.map_cons, flat_cons, List.append_assoc]
    have eh : hd ((g p).bytes ++ (Qt.flat (ps.map g) ++ 34 :: r')) = hd L := by rw [hd_app _ _ k2, k1]
    rw [e]
    refine ⟨.more (by rw [eh]; exact h0) (hg L _ p h1 i2) ?_, eh⟩
    rw [List.drop_left]
    exact i1
theorem Txt.alone {L r : List UInt8} {ps : List Pc} (h : Txt L ps r) (r' : List UInt8) : Txt (Qt.flat ps ++ 34 :: r') ps r' := by
  have := (Txt.turn id (fun L R p h1 h2 => piece_same L R p h1 h2) (fun L p h1 => piece_head L p h1) h r').1
  rw [List.map_id] at this
  exact this
theorem Txt.narrowed {L r : List UInt8} {ps : List Pc} (h : Txt L ps r) (r' : List UInt8) : Txt (Qt.flat (ps.map narrow) ++ 34 :: r') (ps.map narrow) r' :=
  (Txt.turn narrow (fun L R p h1 h2 => narrow_same L R p h1 h2) (fun L p h1 => narrow_head L p h1) h r').1

/-- What a right character literal is. -/
theorem chr_ok (L : List UInt8) (h : (chrL L).err = 0) : ∃ p, hd L ≠ 39 ∧ pieceL L = .ok p ∧ p.form = 0 ∧ hd (L.drop p.bytes.length) = 39 ∧ chrL L = ⟨[p], p.bytes.length + 1, 0⟩ := by
  have hc := h
  unfold chrL at h
  split at h
  · exact absurd h (by show ¬ ((50 : Int) = 0); decide)
  · rename_i h0
    cases hp : pieceL L with
    | error e =>
      rw [hp] at h
      dsimp only at h
      have := piece_err L e hp
      omega
    | ok p =>
      rw [hp] at h
      dsimp only at h
      split at h
      · exact absurd h (by show ¬ ((51 : Int) = 0); decide)
      · rename_i h1
        split at h
        · rename_i h2
          refine ⟨p, h0, rfl, by omega, h2, ?_⟩
          unfold chrL
          rw [if_neg h0, hp]
          dsimp only
          rw [if_neg h1, if_pos h2]
        · exact absurd h (by show ¬ ((50 : Int) = 0); decide)
theorem chr_alone (L R : List UInt8) (p : Pc) (h0 : hd L ≠ 39) (h1 : pieceL L = .ok p) (h2 : p.form = 0) (h3 : hd (L.drop p.bytes.length) = 39) (hr : hd R = 39) : chrL (p.bytes ++ R) = ⟨[p], p.bytes.length + 1, 0⟩ := by
  have e := piece_same L R p h1 (by rw [hr, h3])
  have eh : hd (p.bytes ++ R) = hd L := by rw [hd_app _ _ (piece_head L p h1).2, (piece_head L p h1).1]
  unfold chrL
  rw [eh, if_neg h0, e]
  dsimp only
  rw [if_neg (by omega), List.drop_left, if_pos hr]

theorem quoted_is (L : List UInt8) (h : quoted L = true) : hd L = 34 ∨ hd L = 39 := by
  unfold quoted at h
  rw [Bool.or_eq_true, beq_iff_eq, beq_iff_eq] at h
  exact h
/-- What a right literal is: its quote, its pieces, its quote. -/
theorem read_ok (L : List UInt8) (hq : quoted L = true) (h : (readL L).err = 0) :
    (hd L = 34 ∧ ∃ r, L = 34 :: (flat (readL L).ps ++ 34 :: r) ∧ Txt (L.drop 1) (readL L).ps r ∧ (readL L).pos = (flat (readL L).ps).length + 1) ∨
    (hd L = 39 ∧ ∃ p r, (readL L).ps = [p] ∧ p.form = 0 ∧ L = 39 :: (p.bytes ++ 39 :: r) ∧ pieceL (L.drop 1) = .ok p ∧ hd (L.drop 1) ≠ 39 ∧ hd ((L.drop 1).drop p.bytes.length) = 39 ∧ (readL L).pos = p.bytes.length + 1) := by
  rcases quoted_is L hq with q | q
  · refine .inl ⟨q, ?_⟩
    unfold readL at h ⊢
    rw [if_neg (by omega)] at h ⊢
    obtain ⟨h1, h2⟩ := Txt.of_read _ _ h
    refine ⟨_, ?_, h1, h2⟩
    obtain ⟨y, t, rfl, hy⟩ := hd_cons L 34 q (by omega)
    obtain rfl : y = 34 := UInt8.toNat_inj.1 hy
    congr 1
    exact h1.flat
  · refine .inr ⟨q, ?_⟩
    unfold readL at h ⊢
    rw [if_pos q] at h ⊢
    obtain ⟨p, h0, h1, h2, h3, h4⟩ := chr_ok _ h
    obtain ⟨y, t, rfl, hy⟩ := hd_cons L 39 q (by omega)
    obtain rfl : y = 39 := UInt8.toNat_inj.1 hy
    rw [List.drop_succ_cons, List.drop_zero] at *
    obtain ⟨z, u, hz, hz2⟩ := hd_cons _ 39 h3 (by omega)
    obtain rfl : z = 39 := UInt8.toNat_inj.1 hz2
    obtain ⟨l1, l2, l3⟩ := piece_len t p h1
    refine ⟨p, u, by rw [h4], h2, ?_, h1, h0, h3, by rw [h4]⟩
    congr 1
    rw [← hz]
    conv => rhs; arg 1; rw [l3]
    rw [List.take_append_drop]
theorem read_text (t r : List UInt8) (ps : List Pc) (h : Txt t ps r) : readL (34 :: t) = ⟨ps, (flat ps).length + 1, 0⟩ ∧ quoted (34 :: t) = true := by
  refine ⟨?_, rfl⟩
  unfold readL
  rw [if_neg (by show ¬ ((34 : Nat) = 39); decide), List.drop_succ_cons, List.drop_zero]
  exact h.read _ (by rw [List.length_cons]; omega)
/-- A right literal by itself. -/
theorem read_alone (L : List UInt8) (hq : quoted L = true) (h : (readL L).err = 0) : readL (L.take (1 + (readL L).pos)) = readL L ∧ quoted (L.take (1 + (readL L).pos)) = true ∧ hd (L.take (1 + (readL L).pos)) = hd L ∧ (L.take (1 + (readL L).pos)).length = 1 + (readL L).pos ∧ 1 + (readL L).pos ≤ L.length := by
  have hh : hd (L.take (1 + (readL L).pos)) = hd L := hd_take L _ (by omega)
  have hqq : quoted (L.take (1 + (readL L).pos)) = true := by unfold quoted at hq ⊢; rw [hh]; exact hq
  have hlen : 1 + (readL L).pos ≤ L.length := by
    rcases read_ok L hq h with ⟨q, r, e, h1, h2⟩ | ⟨q, p, r, h0, h1, e, h2, h3, h4, h5⟩
    · have := congrArg List.length e
      rw [List.length_cons, List.length_append, List.length_cons] at this
      omega
    · have := congrArg List.length e
      rw [List.length_cons, List.length_append, List.length_cons] at this
      omega
  refine ⟨?_, hqq, hh, by rw [List.length_take]; omega, hlen⟩
  rcases read_ok L hq h with ⟨q, r, e, h1, h2⟩ | ⟨q, p, r, h0, h1, e, h2, h3, h4, h5⟩
  · have hR : readL L = ⟨(readL L).ps, (readL L).pos, 0⟩ := by rw [← h]
    have e2 : L.take (1 + (readL L).pos) = 34 :: (flat (readL L).ps ++ [34]) := by
      conv => lhs; arg 2; rw [e]
      rw [h2, Nat.add_comm 1, List.take_succ_cons, List.take_append]
      simp
      exact List.take_of_length_le (Nat.le_succ _)
    rw [e2, (read_text _ _ _ (h1.alone [])).1]
    rw [hR]
    congr 1
    exact h2.symm
  · have e2 : L.take (1 + (readL L).pos) = 39 :: (p.bytes ++ [39]) := by
      conv => lhs; arg 2; rw [e]
      rw [h5, Nat.add_comm 1, List.take_succ_cons, List.take_append]
      simp
      exact List.take_of_length_le (Nat.le_succ _)
    have hR : readL L = ⟨[p], p.bytes.length + 1, 0⟩ := by rw [← h0, ← h5, ← h]
    rw [hR] at e2 ⊢
    rw [e2]
    unfold readL
    rw [if_pos (show hd (39 :: (p.bytes ++ [39])) = 39 from rfl), List.drop_succ_cons, List.drop_zero]
    exact chr_alone _ _ p h3 h2 h1 h4 rfl
theorem whole_ok (L : List UInt8) (h : wholeL L = 0) : quoted L = true ∧ (readL L).err = 0 ∧ L.length ≤ 1 + (readL L).pos := by
  unfold wholeL at h
  split at h
  · rename_i hq
    split at h
    · exact absurd h (by decide)
    · rename_i h1
      exact ⟨hq, h, by omega⟩
  · exact absurd h (by decide)
theorem whole_of (L : List UInt8) (hq : quoted L = true) (h : (readL L).err = 0) (hl : L.length ≤ 1 + (readL L).pos) : wholeL L = 0 := by
  unfold wholeL
  rw [if_pos hq, if_neg (by omega), h]
/-- What is found as a literal is one by itself. -/
theorem alone_whole (L : List UInt8) (hq : quoted L = true) (h : (readL L).err = 0) : wholeL (L.take (1 + (readL L).pos)) = 0 ∧ runesL (L.take (1 + (readL L).pos)) = chs (readL L).ps ∧ (hd L = 39 → (chs (readL L).ps).length = 1) := by
  obtain ⟨a, b, c, d, e⟩ := read_alone L hq h
  have hw := whole_of _ b (by rw [a]; exact h) (by rw [a, d]; exact Nat.le_refl _)
  refine ⟨hw, by unfold runesL; rw [if_pos hw, a], ?_⟩
  intro q
  rcases read_ok L hq h with ⟨q2, -⟩ | ⟨-, p, r, h0, h1, -⟩
  · omega
  · rw [h0, chs_cons, if_pos h1]
    rfl
theorem narrow_twice (p : Pc) : narrow (narrow p) = narrow p := by
  unfold narrow
  by_cases h : p.form = 2
  · rw [if_pos h]
    rfl
  · rw [if_neg h, if_neg h]
theorem narrow_chs : ∀ ps : List Pc, chs (ps.map narrow) = chs ps
  | [] => rfl
  | p :: ps => by
    rw [List.map_cons, chs_cons, chs_cons, narrow_chs ps]
    congr 1
    unfold narrow
    by_cases h : p.form = 2
    · simp [h]
    · rw [if_neg h]
/-- A literal with narrow gaps. -/
theorem plain_means (L : List UInt8) (h : wholeL L = 0) : wholeL (plainL L) = 0 ∧ runesL (plainL L) = runesL L ∧ plainL (plainL L) = plainL L ∧ ∀ x ∈ plainL L, 32 ≤ x.toNat := by
  obtain ⟨hq, h0, hl⟩ := whole_ok L h
  rcases read_ok L hq h0 with ⟨q, r, e, h1, h2⟩ | ⟨q, p, r, h3, h1, e, h2, h4, h5, h6⟩
  · have hp : plainL L = 34 :: (flat ((readL L).ps.map narrow) ++ [34]) := by
      unfold plainL
      rw [if_pos h]
      have : L.take 1 = [34] := by rw [e]; rfl
      rw [this]
      rfl
    have hn := h1.narrowed []
    obtain ⟨k1, k2⟩ := read_text _ _ _ hn
    have hw : wholeL (plainL L) = 0 := by
      rw [hp]
      refine whole_of _ k2 (by rw [k1]) ?_
      rw [k1, List.length_cons, List.length_append]
      simp
      omega
    refine ⟨hw, ?_, ?_, ?_⟩
    · unfold runesL
      rw [if_pos hw, if_pos h, hp, k1]
      exact narrow_chs _
    · unfold plainL at hw ⊢
      rw [if_pos h] at hw ⊢
      rw [if_pos hw]
      have hp' := hp
      unfold plainL at hp'
      rw [if_pos h] at hp'
      rw [hp', k1]
      dsimp only
      rw [List.map_map]
      have : (narrow ∘ narrow) = narrow := funext narrow_twice
      rw [this]
      rfl
    · intro x hx
      rw [hp, List.mem_cons, List.mem_append, List.mem_singleton] at hx
      rcases hx with rfl | hx | rfl
      · decide
      · exact h1.bytes x hx
      · decide
  · have hnp : narrow p = p := by unfold narrow; rw [if_neg (by omega)]
    have hp : plainL L = 39 :: (p.bytes ++ [39]) := by
      unfold plainL
      rw [if_pos h]
      have : L.take 1 = [39] := by rw [e]; rfl
      rw [this, h3, List.map_cons, List.map_nil, hnp]
      unfold flat
      simp
    have hc := chr_alone _ [39] p h4 h2 h1 h5 rfl
    have k1 : readL (39 :: (p.bytes ++ [39])) = ⟨[p], p.bytes.length + 1, 0⟩ := by
      unfold readL
      rw [if_pos (show hd (39 :: (p.bytes ++ [39])) = 39 from rfl), List.drop_succ_cons, List.drop_zero]
      exact hc
    have hw : wholeL (plainL L) = 0 := by
      rw [hp]
      refine whole_of _ rfl (by rw [k1]) ?_
      rw [k1, List.length_cons, List.length_append]
      simp
      omega
    refine ⟨hw, ?_, ?_, ?_⟩
    · unfold runesL
      rw [if_pos hw, if_pos h, hp, k1, h3]
    · unfold plainL at hw ⊢
      rw [if_pos h] at hw ⊢
      rw [if_pos hw]
      have hp' := hp
      unfold plainL at hp'
      rw [if_pos h] at hp'
      rw [hp', k1]
      dsimp only
      rw [List.map_cons, List.map_nil, hnp]
      unfold flat
      simp
    · intro x hx
      have hb := narrow_bytes _ p h2
      rw [hnp] at hb
      rw [hp, List.mem_cons, List.mem_append, List.mem_singleton] at hx
      rcases hx with rfl | hx | rfl
      · decide
      · exact hb x hx
      · decide

/-- A character as it is written. -/
def lets : List UInt8 := [97, 98, 116, 110, 118, 102, 114]
def isLet (c : Nat) : Bool := decide (7 ≤ c) && decide (c ≤ 13)
def isNum (c : Nat) : Bool := (decide (c < 32) && !isLet c) || decide (126 < c)
def isDig (c : Nat) : Bool := decide (48 ≤ c) && decide (c ≤ 57)
def wr1 (c : Nat) : List UInt8 :=
  if isLet c = true then [92, lets.getD (c - 7) 0] else if isNum c = true then 92 :: decDigits c else if c = 34 ∨ c = 92 then [92, UInt8.ofNat c] else [UInt8.ofNat c]
/-- What characters are written as; b: the one ahead is a number. -/
def wrL : Bool → List Nat → List UInt8
  | _, [] => []
  | b, c :: l => (if b = true ∧ isDig c = true then [92, 38] else []) ++ (wr1 c ++ wrL (isNum c) l)
def pcsL : Bool → List Nat → List Pc
  | _, [] => []
  | b, c :: l => (if b = true ∧ isDig c = true then [⟨1, 0, [92, 38]⟩] else []) ++ (⟨0, c, wr1 c⟩ :: pcsL (isNum c) l)
theorem pcs_flat : ∀ (l : List Nat) (b : Bool), flat (pcsL b l) = wrL b l
  | [], _ => rfl
  | c :: l, b => by
    rw [pcsL, wrL, flat_app, flat_cons, pcs_flat l]
    split <;> rfl
theorem pcs_chs : ∀ (l : List Nat) (b : Bool), chs (pcsL b l) = l
  | [], _ => rfl
  | c :: l, b => by
    rw [pcsL, chs_app, chs_cons, pcs_chs l]
    split <;> rfl
theorem plain_ascii : ∀ c : Nat, c < 127 → 32 ≤ c → mayB (c : Int) 1 = true := by decide +kernel
theorem let_esc : ∀ c : Nat, c < 14 → 7 ≤ c → (short (lets.getD (c - 7) 0).toNat = c ∧ 34 ≤ (lets.getD (c - 7) 0).toNat ∧ (lets.getD (c - 7) 0).toNat < 128 ∧ (lets.getD (c - 7) 0).toNat ≠ 38) := by decide +kernel
theorem esc_piece (x : UInt8) (T : List UInt8) (h1 : 34 ≤ x.toNat) (h2 : x.toNat < 128) (h3 : x.toNat ≠ 38) (c n : Nat) (h : escE (x :: T) = (c, n)) (hn : n ≠ 0) (hc : c ≤ 1114111) : pieceL (92 :: x :: T) = .ok ⟨0, c, 92 :: (x :: T).take n⟩ := by
  have hg : gapN (92 :: x :: T) = 0 := gap_none _ h1 h2
  unfold pieceL
  rw [if_pos (show hd (92 :: x :: T) = 92 from rfl), if_neg (show ¬ hd ((92 :: x :: T).drop 1) = 38 from h3), hg, if_neg (by omega), List.drop_succ_cons, List.drop_zero, h, if_neg (by dsimp only; omega), Nat.add_comm 1, List.take_succ_cons]
theorem wr1_piece (c : Nat) (hc : c ≤ 1114111) (R : List UInt8) (hr : isNum c = true → isDig (hd R) = false) : pieceL (wr1 c ++ R) = .ok ⟨0, c, wr1 c⟩ := by
  unfold wr1
  by_cases h1 : isLet c = true
  · rw [if_pos h1]
    unfold isLet at h1
    rw [Bool.and_eq_true, decide_eq_true_eq, decide_eq_true_eq] at h1
    obtain ⟨a, b, d, e⟩ := let_esc c (by omega) h1.1
    have hx : escE (lets.getD (c - 7) 0 :: R) = (c, 1) := by
      unfold escE
      rw [show hd (lets.getD (c - 7) 0 :: R) = (lets.getD (c - 7) 0).toNat from rfl, a, if_pos (by omega)]
    exact esc_piece _ R b d e c 1 hx (by omega) hc
  · rw [if_neg h1]
    by_cases h2 : isNum c = true
    · rw [if_pos h2]
      obtain ⟨d1, d2, d3⟩ := Num.dec_digits c
      have hr2 := hr h2
      have hR0 : Num.run 10 R = 0 := by
        cases R with
        | nil => rfl
        | cons y t =>
          rw [Num.run, if_neg]
          intro hd9
          have := (Num.dg_ten' y hd9).2
          unfold isDig at hr2
          rw [Bool.and_eq_false_iff, decide_eq_false_iff_not, decide_eq_false_iff_not] at hr2
          simp only [hd] at hr2
          omega
      have hrun : Num.run 10 (decDigits c ++ R) = (decDigits c).length := by rw [Num.run_app 10 _ R d1, hR0, Nat.add_zero]
      obtain ⟨x, t, hx⟩ : ∃ x t, decDigits c = x :: t := by
        cases hdd : decDigits c with
        | nil => exact absurd hdd d2
        | cons x t => exact ⟨x, t, rfl⟩
      have hxd : Num.isD 10 x = true := List.all_eq_true.1 d1 x (by rw [hx]; simp)
      have hxb := (Num.dg_ten' x hxd).2
      have he : escE (decDigits c ++ R) = (c, (decDigits c).length) := by
        have hh : hd (decDigits c ++ R) = x.toNat := by rw [hx]; rfl
        unfold escE
        rw [hh, short_dig _ hxb, if_neg (by omega), if_neg (by omega), if_neg (by omega), if_neg (by omega), if_pos hxb]
        unfold digE
        rw [hrun, List.take_left, d3, Nat.min_eq_left (by omega)]
      rw [List.cons_append]
      rw [hx, List.cons_append] at he ⊢
      have := esc_piece x (t ++ R) (by omega) (by omega) (by omega) c _ he (by simp) hc
      rw [this, ← List.cons_append, List.take_left]
    · rw [if_neg h2]
      have hc2 : 32 ≤ c ∧ c < 127 := by
        unfold isNum isLet at h2
        unfold isLet at h1
        simp at h1 h2
        omega
      have hcn : (UInt8.ofNat c).toNat = c := by rw [UInt8.toNat_ofNat']; omega
      by_cases h3 : c = 34 ∨ c = 92
      · rw [if_pos h3]
        have hx : escE (UInt8.ofNat c :: R) = (c, 1) := by
          unfold escE
          rw [show hd (UInt8.ofNat c :: R) = (UInt8.ofNat c).toNat from rfl, hcn]
          rcases h3 with rfl | rfl <;> rfl
        exact esc_piece _ R (by omega) (by omega) (by omega) c 1 hx (by omega) hc
      · rw [if_neg h3]
        obtain ⟨r1, r2⟩ := rn_ascii (UInt8.ofNat c) R (by omega)
        rw [hcn] at r1
        unfold pieceL
        show (if hd (UInt8.ofNat c :: R) = 92 then _ else _) = _
        rw [if_neg (by show ¬ (UInt8.ofNat c).toNat = 92; omega)]
        show (if (UInt8.ofNat c :: R) ≠ [] ∧ mayB (rn (UInt8.ofNat c :: R)) (wd (UInt8.ofNat c :: R)) = true then _ else _) = _
        rw [r1, r2, if_pos ⟨by simp, plain_ascii c hc2.2 hc2.1⟩]
        show Except.ok (⟨0, (rn (UInt8.ofNat c :: R)).toNat, (UInt8.ofNat c :: R).take (wd (UInt8.ofNat c :: R))⟩ : Pc) = _
        rw [r1, r2]
        rfl
theorem wr1_head (c : Nat) (hc : c ≤ 1114111) : hd (wr1 c) ≠ 34 ∧ wr1 c ≠ [] ∧ (isDig c = false → isDig (hd (wr1 c)) = false) := by
  unfold wr1
  split
  · exact ⟨by show ¬ (92 : Nat) = 34; decide, by simp, fun _ => rfl⟩
  · split
    · exact ⟨by show ¬ (92 : Nat) = 34; decide, by simp, fun _ => rfl⟩
    · rename_i h1 h2
      have hc2 : 32 ≤ c ∧ c < 127 := by
        unfold isNum isLet at h2
        unfold isLet at h1
        simp at h1 h2
        omega
      have hcn : (UInt8.ofNat c).toNat = c := by rw [UInt8.toNat_ofNat']; omega
      split
      · exact ⟨by show ¬ (92 : Nat) = 34; decide, by simp, fun _ => rfl⟩
      · rename_i h3
        refine ⟨by show ¬ (UInt8.ofNat c).toNat = 34; omega, by simp, fun h => ?_⟩
        show isDig (UInt8.ofNat c).toNat = false
        rw [hcn]
        exact h
theorem nothing_piece (R : List UInt8) : pieceL ([92, 38] ++ R) = .ok ⟨1, 0, [92, 38]⟩ := rfl
theorem wr_txt : ∀ (l : List Nat) (b : Bool) (r : List UInt8), (∀ c ∈ l, c ≤ 1114111) → Txt (wrL b l ++ 34 :: r) (pcsL b l) r ∧ (b = true → isDig (hd (wrL b l ++ 34 :: r)) = false)
  | [], b, r, _ => ⟨.last r, fun _ => rfl⟩
  | c :: l, b, r, h => by
    obtain ⟨i1, i2⟩ := wr_txt l (isNum c) r (fun x hx => h x (by simp [hx]))
    have hc := h c (by simp)
    obtain ⟨w1, w2, w3⟩ := wr1_head c hc
    have hone : Txt (wr1 c ++ (wrL (isNum c) l ++ 34 :: r)) (⟨0, c, wr1 c⟩ :: pcsL (isNum c) l) r := by
      refine .more (by rw [hd_app _ _ w2]; exact w1) (wr1_piece c hc _ i2) ?_
      rw [List.drop_left]
      exact i1
    rw [wrL, pcsL]
    by_cases q : b = true ∧ isDig c = true
    · rw [if_pos q, if_pos q]
      refine ⟨?_, fun _ => rfl⟩
      rw [List.append_assoc, List.append_assoc]
      refine .more (by show ¬ (92 : Nat) = 34; decide) (nothing_piece _) ?_
      exact hone
    · rw [if_neg q, if_neg q, List.nil_append, List.nil_append, List.append_assoc]
      refine ⟨hone, fun hb => ?_⟩
      rw [hd_app _ _ w2]
      refine w3 ?_
      cases hdg : isDig c with
      | false => rfl
      | true => exact absurd ⟨hb, hdg⟩ q
/-- What is written of characters is read as these. -/
theorem write_read (l : List Nat) (h : ∀ c ∈ l, c ≤ 1114111) : readL (34 :: (wrL false l ++ [34])) = ⟨pcsL false l, (wrL false l).length + 1, 0⟩ ∧ quoted (34 :: (wrL false l ++ [34])) = true ∧ wholeL (34 :: (wrL false l ++ [34])) = 0 ∧ runesL (34 :: (wrL false l ++ [34])) = l := by
  obtain ⟨k1, k2⟩ := read_text _ _ _ (wr_txt l false [] h).1
  rw [pcs_flat] at k1
  have hw : wholeL (34 :: (wrL false l ++ [34])) = 0 := by
    refine whole_of _ k2 (by rw [k1]) ?_
    rw [k1, List.length_cons, List.length_append]
    simp
    omega
  refine ⟨k1, k2, hw, ?_⟩
  unfold runesL
  rw [if_pos hw, k1]
  exact pcs_chs l false
theorem nd_le : ∀ (k u : Nat), u < 10 ^ (k + 1) → nDigits u ≤ k + 1
  | 0, u, h => by
    rw [nDigits_small (by omega)]
    exact Nat.le_refl _
  | k + 1, u, h => by
    by_cases q : u < 10
    · rw [nDigits_small q]
      omega
    · rw [nDigits_big q]
      have := nd_le k (u / 10) (by rw [Nat.pow_succ] at h; omega)
      omega
theorem dec_len (c : Nat) (hc : c ≤ 1114111) : (decDigits c).length ≤ 7 := by
  rw [decDigits_length]
  exact nd_le 6 c (by omega)
/-- How long what is written is. -/
theorem wr1_len (c : Nat) (hc : c ≤ 1114111) : (wr1 c).length ≤ 8 ∧ (isDig c = true → (wr1 c).length = 1) := by
  have hd7 := dec_len c hc
  unfold wr1
  by_cases h1 : isLet c = true
  · rw [if_pos h1]
    unfold isLet at h1
    unfold isDig
    simp at h1 ⊢
    omega
  · rw [if_neg h1]
    by_cases h2 : isNum c = true
    · rw [if_pos h2, List.length_cons]
      unfold isNum at h2
      unfold isDig
      simp at h2 ⊢
      omega
    · rw [if_neg h2]
      unfold isDig
      split
      · simp
        omega
      · simp
theorem wr_len : ∀ (l : List Nat) (b : Bool), (∀ c ∈ l, c ≤ 1114111) → (wrL b l).length ≤ 8 * l.length
  | [], _, _ => Nat.le_refl _
  | c :: l, b, h => by
    have i := wr_len l (isNum c) (fun x hx => h x (by simp [hx]))
    obtain ⟨a, d⟩ := wr1_len c (h c (by simp))
    rw [wrL, List.length_append, List.length_append, List.length_cons]
    split
    · rename_i q
      have := d q.2
      simp
      omega
    · simp
      omega
end Go.Proofs.YtdppfhgihoibnaaDoor.Qt
