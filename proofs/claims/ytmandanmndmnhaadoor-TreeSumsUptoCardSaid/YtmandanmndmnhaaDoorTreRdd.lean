/-
  The document's own read of trees. Conditions: texts of at most 2^24 bytes.
-/
import Derived.Test.YtmandanmndmnhaaDoorTreMem
import Derived.Deep.CutRange
namespace Go.Proofs.YtmandanmndmnhaaDoor.Tre
open Tks Go.RowKit
set_option linter.unusedSimpArgs false
set_option linter.unusedVariables false

/-- What read answers: where it ends, or why there is no tree. -/
def GotR (s : ByteArray) (p deep : Nat) (E : Int) (h : Hd) (k : Fo) : Prop :=
  match readT deep (rest s p) with
  | .ok (h', k', q) => h = h' ∧ k = k' ∧ E = ((s.size - q.length : Nat) : Int)
  | .error e => E = e
theorem GotR.bad {s : ByteArray} {p deep : Nat} {E : Int} {h : Hd} {k : Fo} (e : readT deep (rest s p) = .error E) : GotR s p deep E h k := by
  unfold GotR
  rw [e]
theorem GotR.good {s : ByteArray} {p deep : Nat} {h : Hd} {k : Fo} {q : List UInt8} {n : Nat} (e : readT deep (rest s p) = .ok (h, k, q)) (hn : s.size - q.length = n) : GotR s p deep (n : Int) h k := by
  unfold GotR
  rw [e]
  exact ⟨rfl, rfl, by rw [hn]⟩
theorem err_neg : ∀ (f deep : Nat) (l : List UInt8) (e : Int), readK f deep l = .error e → e < 0
  | 0, _, _, e, h => by
    cases h
    decide
  | f + 1, deep, l, e, h => by
    rw [readK] at h
    split at h
    · split at h
      · rename_i e2 hn
        cases h
        unfold nodeR at hn
        split at hn
        · cases hn
          decide
        split at hn
        · split at hn
          · cases hn
            decide
          split at hn
          · rename_i e3 h3
            cases hn
            exact err_neg f _ _ _ h3
          · split at hn
            · cases hn
            · cases hn
              decide
        · split at hn
          · cases hn
            decide
          split at hn
          · split at hn
            · cases hn
              decide
            · cases hn
          · cases hn
            decide
      · split at h
        · rename_i e3 h3
          cases h
          exact err_neg f _ _ _ h3
        · cases h
    · cases h
theorem errT_neg {deep : Nat} {l : List UInt8} {e : Int} (h : readT deep l = .error e) : e < 0 := by
  have : readK (l.length + 2) deep (byte 32 :: l) = .error e := by
    rw [readK, List.head?_cons, if_pos rfl, List.drop_succ_cons, List.drop_zero, ← readT_fuel _ deep l (by omega), h]
  exact err_neg _ _ _ _ this
/-- What is left is the end of the text. -/
theorem tail_rest {s : ByteArray} {p : Nat} {a q : List UInt8} (h : rest s p = a ++ q) (hp : p ≤ s.size) : s.size - q.length = p + a.length ∧ rest s (s.size - q.length) = q ∧ q.length ≤ s.size := by
  have hl := congrArg List.length h
  rw [rest_len, List.length_append] at hl
  have e : s.size - q.length = p + a.length := by omega
  refine ⟨e, ?_, by omega⟩
  rw [e]
  unfold rest at h ⊢
  rw [← List.drop_drop, h, List.drop_left]
theorem got_rest {s : ByteArray} {p deep : Nat} {h : Hd} {k : Fo} {q : List UInt8} (e : readT deep (rest s p) = .ok (h, k, q)) (hp : p ≤ s.size) : ∃ n, s.size - q.length = n ∧ p < n ∧ n ≤ s.size ∧ rest s n = q := by
  have h1 := (again_tree e).1
  have h2 := tail_rest h1 hp
  have h3 := node_len h (showF k)
  exact ⟨_, rfl, by omega, by omega, h2.2.1⟩
theorem rest_drop (s : ByteArray) (p n : Nat) : (rest s p).drop n = rest s (p + n) := by
  unfold rest
  rw [List.drop_drop]
theorem numE_le (s : ByteArray) (p : Nat) (hp : p ≤ s.size) : p + numE (rest s p) ≤ s.size := by
  have := digs_len 3 (rest s p)
  rw [rest_len] at this
  unfold numE
  omega
/-- The head of what is left: a test of the program. -/
theorem head_no (s : ByteArray) (p : Nat) (h : s.size ≤ p) (n : Nat) : (rest s p).head? ≠ some (byte n) := by
  rw [rest_nil s p h]
  intro e
  cases e
theorem head_is (s : ByteArray) (p : Nat) (h : p < s.size) (n : Nat) (e : s[p].toNat = n) : (rest s p).head? = some (byte n) := by
  rw [rest_cons s p h, List.head?_cons, byte_eq e]
theorem head_not (s : ByteArray) (p : Nat) (h : p < s.size) (n : Nat) (hn : n < 256) (e : ¬ s[p].toNat = n) : (rest s p).head? ≠ some (byte n) := by
  rw [rest_cons s p h, List.head?_cons]
  intro q
  injection q with q
  exact e (by rw [q]; exact byte_nat n hn)
def z6 : Obj := ndO ⟨0, 0, ⟨#[]⟩, 0, 0⟩ (.slice none 0 0)
def ReadOut (s : ByteArray) (p deep : Nat) (w : World) (e : Ending) (w' : World) : Prop :=
  ∃ h k a n c E, e = .returned (.tuple #[ndV h (.slice a n c), .int .i64 E]) ∧ KOn w' (fun b => w.heap.size ≤ b) (.slice a n c) k ∧ Below w.heap.size w w' ∧ GotR s p deep E h k
theorem ReadOut.bad {s : ByteArray} {p deep : Nat} {w w' : World} {E : Int} {e : Ending} (he : e = .returned (.tuple #[ndV ⟨0, 0, ⟨#[]⟩, 0, 0⟩ (.slice none 0 0), .int .i64 E])) (hb : Below w.heap.size w w') (hr : readT deep (rest s p) = .error E) : ReadOut s p deep w e w' :=
  ⟨_, .nil, none, 0, 0, E, he, KOn.nil .., hb, .bad hr⟩
theorem res_node {fn : Func} {c u : Tmp} (hf : fn.results = #[.cell c 24, .tmp u]) {tmps : Array Value} {w : World} {B : Nat} {h : Hd} {a : Option Addr} {n m : Nat} (hc : tmps.getD c undef = .pointer (some ⟨B, 0, none⟩)) (hl : Lies w B (ndO h (.slice a n m))) :
    (results fn tmps).run Tryd.prog w = .ok (.tuple #[ndV h (.slice a n m), tmps.getD u undef]) w := by
  obtain ⟨k0, k1, k2, k3, k4, k5⟩ := hl.node
  have hc2 : tmps[c]?.getD undef = .pointer (some ⟨B, 0, none⟩) := by
    rw [← Array.getD_eq_getD_getElem?]
    exact hc
  unfold ndV
  simp [results, hf, hc2, go_sem, k0, k1, k2, k3, k4, k5]
def leafR (m0 : Int) (l : List UInt8) : Except Int (Hd × Fo × List UInt8) :=
  if m0 < 0 ∨ 22 ≤ m0 then .error (-1) else if l.head? = some (byte 34) then (match txtL (l.drop 1) with
    | none => .error (-1)
    | some (t, q) => .ok (hd0 1 m0 ⟨t.toArray⟩, .nil, q)) else .error (-1)
theorem readT_leaf {deep : Nat} {l : List UInt8} (hd : deep ≤ 1000) (h : ¬ l.head? = some (byte 40)) : readT deep l = leafR (numL l) (l.drop (numE l)) := by
  unfold readT nodeR leafR
  rw [if_neg (by omega), if_neg h]
  rfl
def nodeR2 (m0 f : Int) (r : Except Int (Fo × List UInt8)) : Except Int (Hd × Fo × List UInt8) :=
  match r with
  | .error e => .error e
  | .ok (k, q) => if q.head? = some (byte 41) then .ok (hd0 m0 f ⟨#[]⟩, k, q.drop 1) else .error (-1)
theorem readT_node {deep : Nat} {l : List UInt8} (hd : deep ≤ 1000) (h : l.head? = some (byte 40)) :
    readT deep l = if numL (l.drop 1) < 1 ∨ 54 ≤ numL (l.drop 1) ∨ numL (l.drop 1) = 1 then .error (-1) else nodeR2 (numL (l.drop 1)) (bang ((l.drop 1).drop (numE (l.drop 1)))).1 (readKs (deep + 1) (bang ((l.drop 1).drop (numE (l.drop 1)))).2) := by
  rw [readT_ks]
  unfold nodeR nodeR2
  rw [if_neg (by omega), if_pos h]
  rfl
theorem head_lt {s : ByteArray} {p n : Nat} (h : (rest s p).head? = some (byte n)) : p < s.size := by
  by_cases q : p < s.size
  · exact q
  · exact absurd h (head_no s p (by omega) n)
theorem wraps1 {p : Nat} {n : Nat} (hn : n ≤ 16777216) (h : p ≤ n) : wrap64 ((p : Int) + 1) = ((p + 1 : Nat) : Int) ∧ IntKind.i64.wrap ((p : Int) + 1) = ((p + 1 : Nat) : Int) := by
  have e : wrap64 ((p : Int) + 1) = (p : Int) + 1 := IntWalk.wrap64_in _ ⟨by omega, by omega⟩
  have e2 : wrap64 ((p : Int) + 1) = ((p + 1 : Nat) : Int) := by rw [e]; omega
  exact ⟨e2, by rw [IntWalk.i64_left]; exact e2⟩
set_option maxRecDepth 1000000 in
set_option maxHeartbeats 8000000 in
theorem refread_any (s : ByteArray) (hs : s.size ≤ 16777216) (p : Nat) : ∀ (deep : Nat) (w : World), p ≤ s.size → deep ≤ 1001 →
    Calls Tryd.prog 42 #[.string s, .int .i64 (p : Int), .int .i64 (deep : Int)] w (ReadOut s p deep w) := by
  generalize hm : s.size - p = m
  induction m using Nat.strongRecOn generalizing p with
  | _ m ihm =>
  have IH : Hid (∀ p', p < p' → p' ≤ s.size → ∀ (deep : Nat) (w : World), deep ≤ 1001 → Calls Tryd.prog 42 #[.string s, .int .i64 (p' : Int), .int .i64 (deep : Int)] w (ReadOut s p' deep w)) :=
    fun p' h1 h2 deep w h3 => ihm (s.size - p') (by omega) p' rfl deep w h2 h3
  clear ihm
  intro deep w hp hd
  have HS := Lib.hid hs
  have HP := Lib.hid hp
  have HD := Lib.hid hd
  clear hm
  by_cases hdeep : deep ≤ 1000
  · have d1 : decide ((1000 : Int) < (deep : Int)) = false := decide_eq_false (by omega)
    have d1n : decide (1000 < deep) = false := decide_eq_false (by omega)
    obtain ⟨C1, hC1⟩ : ∃ C1 : Bool, decide ((rest s p).head? ≠ some (byte 40)) = C1 := ⟨_, rfl⟩
    have HC1 := Lib.hid hC1
    have HDP := Lib.hid hdeep
    clear hC1 hdeep
    go_enter Tryd.func42, Tryd.ntmps42
    go_upto_region 1 with fail
    refine gen_world (fun X => Below w.heap.size w X ∧ Lies X w.heap.size z6 ∧ X.heap.size = w.heap.size + 1) ⟨below_one w _, Lies.new w _, World.size_alloc _ _⟩ ?_
    rintro X ⟨bX, lX, zX⟩
    have BX := Lib.hid bX
    have LX : Hid (Lies X w.heap.size (ndO ⟨0, 0, ⟨#[]⟩, 0, 0⟩ (.slice none 0 0))) := lX
    have ZX := Lib.hid zX
    clear bX lX zX
    go_upto_region 3 with fail
    go_cut [29] from 17 (fun b wx => b = .bool C1 ∧ wx = X)
    case first =>
      by_cases h1 : p < s.size
      · have e1 : decide ((s.size : Int) ≤ (p : Int)) = false := decide_eq_false (by omega)
        have e1n : decide (s.size ≤ p) = false := decide_eq_false (by omega)
        have i0 : (0 : Int) ≤ (p : Int) := by omega
        have i1 : (p : Int) < (s.size : Int) := by omega
        by_cases h2 : s[p].toNat = 40
        · have e2 : (((s[p].toNat : Nat) : Int) != 40) = false := by rw [bne_eq_false_iff_eq]; omega
          have HC : Hid (C1 = false) := by rw [← HC1.out]; exact decide_eq_false (fun q => q (head_is s p h1 40 h2))
          clear h2
          go_wp2_with fail
          go_meet
          case rel => exact ⟨by rw [HC.out], rfl⟩
        · have e2 : (((s[p].toNat : Nat) : Int) != 40) = true := by rw [bne_iff_ne]; omega
          have HC : Hid (C1 = true) := by rw [← HC1.out]; exact decide_eq_true (head_not s p h1 40 (by omega) h2)
          clear h2
          go_wp2_with fail
          go_meet
          case rel => exact ⟨by rw [HC.out], rfl⟩
      · have e1 : decide ((s.size : Int) ≤ (p : Int)) = true := decide_eq_true (by omega)
        have e1n : decide (s.size ≤ p) = true := decide_eq_true (by omega)
        have HC : Hid (C1 = true) := by rw [← HC1.out]; exact decide_eq_true (head_no s p (by omega) 40)
        clear h1
        go_wp2_with fail
        go_meet
        case rel => exact ⟨by rw [HC.out], rfl⟩
    case rest =>
      obtain ⟨rfl, rfl⟩ := hcut
      cases C1 with
      | true =>
        have h40 : ¬ (rest s p).head? = some (byte 40) := of_decide_eq_true HC1.out
        have CN := Lib.hid (fun W => refnumber_any s p hp (by omega) W)
        have HLE := Lib.hid (numE_le s p hp)
        have hT := readT_leaf HDP.out h40
        rw [rest_drop] at hT
        obtain ⟨m0, hm0⟩ : ∃ m0, numL (rest s p) = m0 := ⟨_, rfl⟩
        obtain ⟨k0, hk0⟩ : ∃ k0, p + numE (rest s p) = k0 := ⟨_, rfl⟩
        rw [hm0, hk0] at CN hT
        rw [hk0] at HLE
        have CT0 := Lib.hid (fun W => reftext_any s k0 HLE.out (by have := HS.out; omega) W)
        have HT := Lib.hid hT
        obtain ⟨⟨c0, c1, c2, c3, c4, c5⟩, f0, f1, f2, f3, f4, f5⟩ := LX.out.nodef
        clear h40 hm0 hk0 hp hd HC1 hT d1 d1n
        by_cases g1 : m0 < 0
        · have q1 : decide (m0 < 0) = true := decide_eq_true g1
          have HR : Hid (readT deep (rest s p) = .error (-1)) := by
            rw [HT.out]
            unfold Hid leafR
            rw [if_pos (.inl g1)]
          clear HT g1
          go_wp2_with (first
            | (go_at_call 50; refine (CN.out _).mono ?_; rintro e w2 ⟨rfl, hw⟩; rw [hw]; clear hw))
          refine bodyPost_ret (res_node Tryd.results42 rfl (Lies.all6 (LX.out) ⟨0, 0, ⟨#[]⟩, 0, 0⟩ (.slice none 0 0))) rfl ?_
          exact .bad rfl (set6_below (BX.out) (Nat.le_refl _) _ _ _ _ _ _) HR.out
        · have q1 : decide (m0 < 0) = false := decide_eq_false g1
          by_cases g2 : 22 ≤ m0
          · have q2 : decide ((22 : Int) ≤ m0) = true := decide_eq_true g2
            have HR : Hid (readT deep (rest s p) = .error (-1)) := by
              rw [HT.out]
              unfold Hid leafR
              rw [if_pos (.inr g2)]
            clear HT g1 g2
            go_wp2_with (first
              | (go_at_call 50; refine (CN.out _).mono ?_; rintro e w2 ⟨rfl, hw⟩; rw [hw]; clear hw))
            refine bodyPost_ret (res_node Tryd.results42 rfl (Lies.all6 (LX.out) ⟨0, 0, ⟨#[]⟩, 0, 0⟩ (.slice none 0 0))) rfl ?_
            exact .bad rfl (set6_below (BX.out) (Nat.le_refl _) _ _ _ _ _ _) HR.out
          · have q2 : decide ((22 : Int) ≤ m0) = false := decide_eq_false g2
            have hT2 : readT deep (rest s p) = if (rest s k0).head? = some (byte 34) then (match txtL ((rest s k0).drop 1) with
                | none => .error (-1)
                | some (t, q) => .ok (hd0 1 m0 ⟨t.toArray⟩, .nil, q)) else .error (-1) := by
              rw [HT.out]
              unfold leafR
              rw [if_neg (by omega)]
            have key : ∃ (t : List UInt8) (E : Int), textR s k0 = #[.string ⟨t.toArray⟩, .int .i64 E] ∧ GotR s p deep E (hd0 1 m0 ⟨t.toArray⟩) .nil := by
              by_cases h34 : (rest s k0).head? = some (byte 34)
              · cases hx : txtL ((rest s k0).drop 1) with
                | none =>
                  rw [if_pos h34, hx] at hT2
                  exact ⟨[], -1, by unfold textR; rw [if_pos h34, hx]; rfl, .bad hT2⟩
                | some tq =>
                  obtain ⟨t, q⟩ := tq
                  rw [if_pos h34, hx] at hT2
                  exact ⟨t, _, by unfold textR; rw [if_pos h34, hx], .good hT2 rfl⟩
              · rw [if_neg h34] at hT2
                exact ⟨[], -1, by unfold textR; rw [if_neg h34]; rfl, .bad hT2⟩
            obtain ⟨t, E, ht, hG⟩ := key
            have HG := Lib.hid hG
            have CT := CT0
            rw [ht] at CT
            clear ht hG hT2 HT g1 g2 CT0
            go_wp2_with (first
              | (go_at_call 50; refine (CN.out _).mono ?_; rintro e w2 ⟨rfl, hw⟩; rw [hw]; clear hw)
              | (go_at_call 51; refine (CT.out _).mono ?_; rintro e w3 ⟨rfl, b3⟩; have B3 := Lib.hid b3; have L3 := Lib.hid (LX.out.below b3 LX.out.lt); clear b3; obtain ⟨⟨c0, c1, c2, c3, c4, c5⟩, f0, f1, f2, f3, f4, f5⟩ := L3.out.nodef))
            refine bodyPost_ret (res_node Tryd.results42 rfl (Lies.all6 L3.out (hd0 1 m0 ⟨t.toArray⟩) (.slice none 0 0))) rfl ?_
            exact ⟨_, .nil, none, 0, 0, E, rfl, KOn.nil .., set6_below (afterL BX.out B3.out) (Nat.le_refl _) _ _ _ _ _ _, HG.out⟩
      | false =>
        have h40 : (rest s p).head? = some (byte 40) := Decidable.of_not_not (of_decide_eq_false HC1.out)
        have hlt := head_lt h40
        obtain ⟨y1, y2⟩ := wraps1 HS.out HP.out
        have hT := readT_node HDP.out h40
        rw [rest_drop, rest_drop] at hT
        obtain ⟨p1, hp1⟩ : ∃ p1, p + 1 = p1 := ⟨_, rfl⟩
        rw [hp1] at hT y1 y2
        have CN := Lib.hid (fun W => refnumber_any s p1 (by omega) (by omega) W)
        have hLE := numE_le s p1 (by omega)
        obtain ⟨m0, hm0⟩ : ∃ m0, numL (rest s p1) = m0 := ⟨_, rfl⟩
        obtain ⟨k0, hk0⟩ : ∃ k0, p1 + numE (rest s p1) = k0 := ⟨_, rfl⟩
        rw [hm0, hk0] at CN hT
        rw [hk0] at hLE
        have HLE := Lib.hid hLE
        have HLO : Hid (p < k0) := by unfold Hid; omega
        have HT := Lib.hid hT
        obtain ⟨⟨c0, c1, c2, c3, c4, c5⟩, f0, f1, f2, f3, f4, f5⟩ := LX.out.nodef
        obtain ⟨C2, hC2⟩ : ∃ C2 : Bool, decide (m0 < 1 ∨ 54 ≤ m0 ∨ m0 = 1) = C2 := ⟨_, rfl⟩
        have HC2 := Lib.hid hC2
        clear h40 hm0 hk0 hp hd HC1 hT d1 d1n hlt hp1 hLE hC2
        go_upto_region 10 with (first
          | (go_at_call 50; refine (CN.out _).mono ?_; rintro e w2 ⟨rfl, hw⟩; rw [hw]; clear hw))
        go_cut [69] from 17 (fun b wx => b = .bool C2 ∧ wx = wc)
        case first =>
          by_cases g1 : m0 < 1
          · have q1 : decide (m0 < 1) = true := decide_eq_true g1
            have HC : Hid (C2 = true) := by rw [← HC2.out]; exact decide_eq_true (.inl g1)
            clear g1
            go_wp2_with fail
            go_meet
            case rel => exact ⟨by rw [HC.out], rfl⟩
          · have q1 : decide (m0 < 1) = false := decide_eq_false g1
            by_cases g2 : 54 ≤ m0
            · have q2 : decide ((54 : Int) ≤ m0) = true := decide_eq_true g2
              have HC : Hid (C2 = true) := by rw [← HC2.out]; exact decide_eq_true (.inr (.inl g2))
              clear g1 g2
              go_wp2_with fail
              go_meet
              case rel => exact ⟨by rw [HC.out], rfl⟩
            · have q2 : decide ((54 : Int) ≤ m0) = false := decide_eq_false g2
              by_cases g3 : m0 = 1
              · have q3 : (m0 == 1) = true := beq_iff_eq.2 g3
                have HC : Hid (C2 = true) := by rw [← HC2.out]; exact decide_eq_true (.inr (.inr g3))
                clear g1 g2 g3
                go_wp2_with fail
                go_meet
                case rel => exact ⟨by rw [HC.out], rfl⟩
              · have q3 : (m0 == 1) = false := beq_eq_false_iff_ne.2 g3
                have HC : Hid (C2 = false) := by rw [← HC2.out]; exact decide_eq_false (by omega)
                clear g1 g2 g3
                go_wp2_with fail
                go_meet
                case rel => exact ⟨by rw [HC.out], rfl⟩
        case rest =>
          obtain ⟨rfl, rfl⟩ := hcut
          cases C2 with
          | true =>
            have HR : Hid (readT deep (rest s p) = .error (-1)) := by
              rw [HT.out]
              unfold Hid
              rw [if_pos (of_decide_eq_true HC2.out)]
            clear HT
            go_wp2_with fail
            refine bodyPost_ret (res_node Tryd.results42 rfl (Lies.all6 (LX.out) ⟨0, 0, ⟨#[]⟩, 0, 0⟩ (.slice none 0 0))) rfl ?_
            exact .bad rfl (set6_below (BX.out) (Nat.le_refl _) _ _ _ _ _ _) HR.out
          | false =>
            have HT2 : Hid (readT deep (rest s p) = nodeR2 m0 (bang (rest s k0)).1 (readKs (deep + 1) (bang (rest s k0)).2)) := by
              rw [HT.out]
              unfold Hid
              rw [if_neg (of_decide_eq_false HC2.out)]
            clear HT HC2
            go_upto_region 13 with fail
            refine gen_world (fun Y => Below w.heap.size w Y ∧ Lies Y w.heap.size (ndO ⟨0, 0, ⟨#[]⟩, 0, 0⟩ (.slice none 0 0)) ∧ Lies Y wc.heap.size (ndO (hd0 m0 0 ⟨#[]⟩) (.slice none 0 0)) ∧ Y.heap.size = wc.heap.size + 1) ⟨BX.out.trans ((below_one wc _).mono BX.out.size), LX.out.alloc _, Lies.new wc _, World.size_alloc _ _⟩ ?_
            rintro Y ⟨bY, lY, mY, zY⟩
            rw [ZX.out] at mY zY ⊢
            generalize hNB : w.heap.size + 1 = NB at *
            have NBE := Lib.hid hNB
            have nb1 : ¬ NB = w.heap.size := by omega
            have nb2 : ¬ w.heap.size = NB := by omega
            have BY := Lib.hid bY
            have LY := Lib.hid lY
            have MY := Lib.hid mY
            have ZY := Lib.hid zY
            clear bY lY mY zY hNB c0 c1 c2 c3 c4 c5 f0 f1 f2 f3 f4 f5
            obtain ⟨⟨c0, c1, c2, c3, c4, c5⟩, f0, f1, f2, f3, f4, f5⟩ := LY.out.nodef
            obtain ⟨⟨e0, e1, e2, e3, e4, e5⟩, g0, g1, g2, g3, g4, g5⟩ := MY.out.nodef
            obtain ⟨C3, hC3⟩ : ∃ C3 : Bool, decide ((rest s k0).head? = some (byte 33)) = C3 := ⟨_, rfl⟩
            have HC3 := Lib.hid hC3
            clear hC3
            have i0 : (0 : Int) ≤ (k0 : Int) := by omega
            go_cut [82] from 17 (fun b wx => b = .bool C3 ∧ wx = Y)
            case first =>
              by_cases h1 : k0 < s.size
              · have e1 : decide ((k0 : Int) < (s.size : Int)) = true := decide_eq_true (by omega)
                have e1n : decide (k0 < s.size) = true := decide_eq_true (by omega)
                have i1 : (k0 : Int) < (s.size : Int) := by omega
                by_cases h2 : s[k0].toNat = 33
                · have e2 : (((s[k0].toNat : Nat) : Int) == 33) = true := by rw [beq_iff_eq]; omega
                  have HC : Hid (C3 = true) := by rw [← HC3.out]; exact decide_eq_true (head_is s k0 h1 33 h2)
                  clear h2
                  go_wp2_with fail
                  go_meet
                  case rel => exact ⟨by rw [HC.out], rfl⟩
                · have e2 : (((s[k0].toNat : Nat) : Int) == 33) = false := by rw [beq_eq_false_iff_ne]; omega
                  have HC : Hid (C3 = false) := by rw [← HC3.out]; exact decide_eq_false (head_not s k0 h1 33 (by omega) h2)
                  clear h2
                  go_wp2_with fail
                  go_meet
                  case rel => exact ⟨by rw [HC.out], rfl⟩
              · have e1 : decide ((k0 : Int) < (s.size : Int)) = false := decide_eq_false (by omega)
                have e1n : decide (k0 < s.size) = false := decide_eq_false (by omega)
                have HC : Hid (C3 = false) := by rw [← HC3.out]; exact decide_eq_false (head_no s k0 (by omega) 33)
                clear h1
                go_wp2_with fail
                go_meet
                case rel => exact ⟨by rw [HC.out], rfl⟩
            case rest =>
              obtain ⟨rfl, rfl⟩ := hcut
              go_upto_if 82 with fail
              go_cut [13] from 17 (fun kx wx => ∃ (k1 : Nat) (f : Int), kx = .int .i64 (k1 : Int) ∧ bang (rest s k0) = (f, rest s k1) ∧ k1 ≤ s.size ∧ k0 ≤ k1 ∧ Below w.heap.size w wx ∧ Lies wx w.heap.size (ndO ⟨0, 0, ⟨#[]⟩, 0, 0⟩ (.slice none 0 0)) ∧ Lies wx NB (ndO (hd0 m0 f ⟨#[]⟩) (.slice none 0 0)) ∧ wx.heap.size = NB + 1)
              case first =>
                cases C3 with
                | true =>
                  have h33 := of_decide_eq_true HC3.out
                  have hlt := head_lt h33
                  have HBG : Hid (bang (rest s k0) = (1, rest s (k0 + 1))) := by
                    unfold Hid bang
                    rw [if_pos h33, rest_drop]
                  obtain ⟨y1, y2⟩ := wraps1 HS.out HLE.out
                  clear h33
                  go_wp2_with fail
                  go_meet
                  case rel => exact ⟨k0 + 1, 1, rfl, HBG.out, by omega, by omega, BY.out.setCell (p := ⟨NB, 1, none⟩) (by have := NBE.out; show w.heap.size ≤ NB; omega) _, LY.out.other (p := ⟨NB, 1, none⟩) nb2 _, MY.out.set1 1, by rw [World.size_setCell]; exact ZY.out⟩
                | false =>
                  have HBG : Hid (bang (rest s k0) = (0, rest s k0)) := by
                    unfold Hid bang
                    rw [if_neg (of_decide_eq_false HC3.out)]
                  go_wp2_with fail
                  go_meet
                  case rel => exact ⟨k0, 0, rfl, HBG.out, HLE.out, Nat.le_refl _, BY.out, LY.out, MY.out, ZY.out⟩
              case rest =>
                obtain ⟨k1, f, rfl, hbg, hk1, hk01, bV, lV, mV, zV⟩ := hcut
                have HT3 : Hid (readT deep (rest s p) = nodeR2 m0 f (readKs (deep + 1) (rest s k1))) := by
                  have := HT2.out
                  rw [hbg] at this
                  exact this
                have HK1 := Lib.hid hk1
                have HPK : Hid (p < k1) := by have := HLO.out; unfold Hid; omega

                have BV := Lib.hid bV
                have LV := Lib.hid lV
                have MV := Lib.hid mV
                have ZV := Lib.hid zV
                clear HT2 hbg hk1 hk01 bV lV mV zV BY LY MY ZY c0 c1 c2 c3 c4 c5 f0 f1 f2 f3 f4 f5 e0 e1 e2 e3 e4 e5 g0 g1 g2 g3 g4 g5 HC3 i0 y1 y2
                go_wp2_with fail
                go_loopw [13] (fun kv wr => ∃ (q : Nat) (acc : List Nv) (a : Option Addr) (c : Nat), kv = .int .i64 (q : Int) ∧ Hid (q ≤ s.size ∧ k1 ≤ q) ∧ Hid (behind (foL acc) (readKs (deep + 1) (rest s q)) = readKs (deep + 1) (rest s k1)) ∧ Hid (Lies wr w.heap.size (ndO ⟨0, 0, ⟨#[]⟩, 0, 0⟩ (.slice none 0 0))) ∧ Hid (Lies wr NB (ndO (hd0 m0 f ⟨#[]⟩) (.slice a acc.length c))) ∧ Hid (NdOwn wr (NB + 1) (.slice a acc.length c) acc) ∧ Hid (Below w.heap.size w wr) ∧ Hid (acc.length ≤ q ∧ NB + 1 ≤ wr.heap.size)) (fun kv _ => s.size - (intOf kv).toNat)
                case atStart => exact ⟨k1, [], none, 0, rfl, ⟨HK1.out, Nat.le_refl _⟩, behind_nil _, LV.out, MV.out, NdOwn.nil _ _, BV.out, ⟨Nat.zero_le _, by have := ZV.out; omega⟩⟩
                case round =>
                  obtain ⟨q, acc, a, c, rfl, HQ, HB, LR, LN, NO, BW, HA⟩ := hrel
                  clear LV MV ZV BV
                  obtain ⟨⟨c0, c1, c2, c3, c4, c5⟩, f0, f1, f2, f3, f4, f5⟩ := LR.out.nodef
                  obtain ⟨⟨e0, e1, e2, e3, e4, e5⟩, g0, g1, g2, g3, g4, g5⟩ := LN.out.nodef
                  have i0 : (0 : Int) ≤ (q : Int) := by omega
                  obtain ⟨y1, y2⟩ := wraps1 HS.out HQ.out.1
                  obtain ⟨z1, z2⟩ := wraps1 (p := deep) (n := 1000) (by omega) HDP.out
                  by_cases h1 : q < s.size
                  · have d1 : decide ((q : Int) < (s.size : Int)) = true := decide_eq_true (by omega)
                    have d1n : decide (q < s.size) = true := decide_eq_true h1
                    have d2 : decide ((s.size : Int) ≤ (q : Int)) = false := decide_eq_false (by omega)
                    have d2n : decide (s.size ≤ q) = false := decide_eq_false (by omega)
                    have i1 : (q : Int) < (s.size : Int) := by omega
                    have hd1 : (rest s q).drop 1 = rest s (q + 1) := rest_drop s q 1
                    have HD1 := Lib.hid hd1
                    clear hd1
                    by_cases h2 : s[q].toNat = 32
                    · have x2 : (((s[q].toNat : Nat) : Int) == 32) = true := by rw [beq_iff_eq]; omega
                      have H32 := Lib.hid (head_is s q h1 32 h2)
                      have CI := Lib.hid (IH.out (q + 1) (by have := HPK.out; have := HQ.out.2; omega) (by omega) (deep + 1) wr (by have := HDP.out; omega))
                      have HQ1 : Hid (q + 1 ≤ s.size) := h1
                      clear h2
                      cases hrt : readT (deep + 1) (rest s (q + 1)) with
                      | error er =>
                        have C : Hid (Calls Tryd.prog 42 #[.string s, .int .i64 ((q + 1 : Nat) : Int), .int .i64 ((deep + 1 : Nat) : Int)] wr (fun e w6 => ∃ hx sa sn sc, e = .returned (.tuple #[ndV hx (.slice sa sn sc), .int .i64 er]) ∧ Below wr.heap.size wr w6)) := by
                          refine CI.out.mono ?_
                          rintro e w6 ⟨hx, k2, sa, sn, sc, E, rfl, -, b6, got⟩
                          unfold GotR at got
                          rw [hrt] at got
                          subst got
                          exact ⟨hx, sa, sn, sc, rfl, b6⟩
                        have q1 : decide (er < 0) = true := decide_eq_true (errT_neg hrt)
                        have HR : Hid (readT deep (rest s p) = .error er) := by
                          unfold Hid
                          rw [HT3.out, ← HB.out, behind_bad H32.out (by rw [HD1.out]; exact hrt)]
                          rfl
                        unfold ndV at C
                        clear CI hrt HT3 HB
                        go_upto_region 18 with (first
                          | (go_at_call 42; refine C.out.mono ?_; rintro e w6 ⟨hx, sa, sn, sc, rfl, b6⟩; have B6 := Lib.hid b6; clear b6))
                        refine gen_world (fun Z => Below wr.heap.size wr Z) (afterL B6.out (below_one w6 _)) ?_
                        rintro Z bZ
                        have BZ := Lib.hid bZ
                        have LRZ := Lib.hid (LR.out.below bZ LR.out.lt)
                        clear c0 c1 c2 c3 c4 c5 f0 f1 f2 f3 f4 f5 e0 e1 e2 e3 e4 e5 g0 g1 g2 g3 g4 g5 bZ
                        obtain ⟨⟨c0, c1, c2, c3, c4, c5⟩, f0, f1, f2, f3, f4, f5⟩ := LRZ.out.nodef
                        go_upto_region 19 with fail
                        go_cut [7] from 17 to 115 (fun v7 wx => v7 = .int .i64 er ∧ wx = set6 Z w.heap.size (.int .i64 0) (.int .i64 0) (.string ⟨#[]⟩) (.int .i64 0) (.int .i64 0) (.slice none 0 0))
                        case first =>
                          go_wp2_with fail
                          go_meet
                          case rel => exact ⟨rfl, rfl⟩
                        case rest =>
                          obtain ⟨rfl, rfl⟩ := hcut
                          repeat go_step
                          refine bodyPost_ret (res_node Tryd.results42 rfl (Lies.all6 LRZ.out ⟨0, 0, ⟨#[]⟩, 0, 0⟩ (.slice none 0 0))) rfl ?_
                          exact .bad rfl (set6_below (BW.out.trans (BZ.out.mono BW.out.size)) (Nat.le_refl _) _ _ _ _ _ _) HR.out
                      | ok pr =>
                        obtain ⟨hx, k2, q2⟩ := pr
                        obtain ⟨n, hn1, hn2, hn3, hn4⟩ := got_rest hrt HQ1.out
                        have C : Hid (Calls Tryd.prog 42 #[.string s, .int .i64 ((q + 1 : Nat) : Int), .int .i64 ((deep + 1 : Nat) : Int)] wr (fun e w6 => ∃ sa sn sc, e = .returned (.tuple #[ndV hx (.slice sa sn sc), .int .i64 (n : Int)]) ∧ KOn w6 (fun b => wr.heap.size ≤ b) (.slice sa sn sc) k2 ∧ Below wr.heap.size wr w6)) := by
                          refine CI.out.mono ?_
                          rintro e w6 ⟨h3, k3, sa, sn, sc, E, rfl, kon, b6, got⟩
                          unfold GotR at got
                          rw [hrt] at got
                          obtain ⟨rfl, rfl, rfl⟩ := got
                          exact ⟨sa, sn, sc, by rw [hn1], kon, b6⟩
                        have q1 : decide ((n : Int) < 0) = false := decide_eq_false (by omega)
                        have HN := Lib.hid (show q < n ∧ n ≤ s.size from ⟨by omega, hn3⟩)
                        have HBN : Hid (∀ va, behind (foL (acc ++ [⟨hx, k2, va⟩])) (readKs (deep + 1) (rest s n)) = readKs (deep + 1) (rest s k1)) := by
                          intro va
                          rw [hn4, ← behind_kid (x := ⟨hx, k2, va⟩) H32.out (by rw [HD1.out]; exact hrt)]
                          exact HB.out
                        unfold ndV at C
                        clear CI hrt HT3 HB hn1 hn2 hn3 hn4
                        go_upto_region 18 with (first
                          | (go_at_call 42; refine C.out.mono ?_; rintro e w6 ⟨sa, sn, sc, rfl, kon, b6⟩; have B6 := Lib.hid b6; have KO := Lib.hid kon; clear b6 kon))
                        refine gen_world (fun Z => Below wr.heap.size wr Z ∧ Lies Z w6.heap.size (ndO hx (.slice sa sn sc)) ∧ KOn Z (fun b => wr.heap.size ≤ b) (.slice sa sn sc) k2) ⟨afterL B6.out (below_one w6 _), Lies.new w6 _, KO.out.below (below_one w6 _) (Nat.le_refl _)⟩ ?_
                        rintro Z ⟨bZ, lZ, kZ⟩
                        have BZ := Lib.hid bZ
                        have KZ := Lib.hid kZ
                        have LRZ := Lib.hid (LR.out.below bZ LR.out.lt)
                        have LNZ := Lib.hid (LN.out.below bZ LN.out.lt)
                        have NOZ := Lib.hid (NO.out.below bZ (Nat.le_refl _))
                        have KR := Lib.hid (kid_ready NO.out HA.out.2 kZ (below_one Z (.cells #[.int .i64 hx.kind, .int .i64 hx.form, .string hx.text, .int .i64 hx.line, .int .i64 hx.col, .slice sa sn sc] 24)))
                        clear c0 c1 c2 c3 c4 c5 f0 f1 f2 f3 f4 f5 e0 e1 e2 e3 e4 e5 g0 g1 g2 g3 g4 g5
                        obtain ⟨m0', m1', m2', m3', m4', m5'⟩ := lZ.node
                        obtain ⟨⟨e0, e1, e2, e3, e4, e5⟩, g0, g1, g2, g3, g4, g5⟩ := LNZ.out.nodef
                        clear bZ lZ kZ
                        go_wp2_with (first
                          | (at_builtin; refine append_nd _ rfl _ _ rfl (NB + 1) (.slice a acc.length c) acc rfl (NOZ.out.below (below_one Z _) (Nat.le_refl _)) ⟨Z.heap.size, 0, none⟩ ⟨hx, k2, .slice sa sn sc⟩ 1 rfl (World.news_of_block (heap_alloc_new Z _)) KR.out (by have := HA.out.1; have := HQ.out.1; have := HS.out; omega) (by have := HA.out.2; have := BZ.out.size; rw [World.size_alloc]; omega) ?_; intro v3 w3 h3 g3 e3; have O3 := Lib.hid h3; have LR3 := Lib.hid (grown_lies (NOZ.out.below (below_one Z _) (Nat.le_refl _)) g3 (LRZ.out.alloc _) (by have := NBE.out; omega)); have LN3 := Lib.hid (grown_lies (NOZ.out.below (below_one Z _) (Nat.le_refl _)) g3 (LNZ.out.alloc _) (by omega)); have B3 := Lib.hid (grown_below (((BW.out.trans (BZ.out.mono BW.out.size)).alloc (by have := BW.out.size; have := BZ.out.size; omega) _)) (by have := NBE.out; omega) (by have := HA.out.2; have := BZ.out.size; rw [World.size_alloc]; omega) (NOZ.out.below (below_one Z _) (Nat.le_refl _)) g3); have S3 := Lib.hid g3.size; clear h3 g3 e3; obtain ⟨a3, c3, rfl⟩ := O3.out.slice; clear e0 e1 e2 e3 e4 e5 g0 g1 g2 g3 g4 g5; obtain ⟨⟨e0, e1, e2, e3, e4, e5⟩, g0, g1, g2, g3, g4, g5⟩ := LN3.out.nodef))
                        have el : (acc ++ [(⟨hx, k2, .slice sa sn sc⟩ : Nv)]).length = acc.length + 1 := by simp
                        refine ⟨⟨n, acc ++ [⟨hx, k2, .slice sa sn sc⟩], a3, c3, rfl, ⟨HN.out.2, by have := HN.out.1; have := HQ.out.2; omega⟩, (by unfold Hid; exact HBN.out _), LR3.out.other (p := ⟨NB, 5, none⟩) nb2 _, ?_, ?_, B3.out.setCell (p := ⟨NB, 5, none⟩) (by have := NBE.out; show w.heap.size ≤ NB; omega) _, ⟨?_, ?_⟩⟩, ?_⟩
                        · rw [el]
                          exact LN3.out.set5 _
                        · have := O3.out.set (p := ⟨NB, 5, none⟩) (show NB < NB + 1 by omega) (.slice a3 (acc.length + 1) c3)
                          rw [el] at this ⊢
                          exact this
                        · rw [el]
                          have := HA.out.1
                          have := HN.out.1
                          omega
                        · rw [World.size_setCell]
                          have := S3.out
                          have := HA.out.2
                          have := BZ.out.size
                          rw [World.size_alloc] at *
                          omega
                        · have := HN.out
                          simp only [intOf]
                          omega
                    · have x2 : (((s[q].toNat : Nat) : Int) == 32) = false := by rw [beq_eq_false_iff_ne]; omega
                      have HR0 : Hid (readT deep (rest s p) = nodeR2 m0 f (.ok (foL acc, rest s q))) := by
                        unfold Hid
                        rw [HT3.out, ← HB.out, behind_end (head_not s q h1 32 (by omega) h2)]
                      clear HT3 HB h2
                      by_cases h3 : s[q].toNat = 41
                      · have x3 : (((s[q].toNat : Nat) : Int) != 41) = false := by rw [bne_eq_false_iff_eq]; omega
                        have HR : Hid (readT deep (rest s p) = .ok (hd0 m0 f ⟨#[]⟩, foL acc, rest s (q + 1))) := by
                          unfold Hid
                          rw [HR0.out]
                          unfold nodeR2
                          dsimp only
                          rw [if_pos (head_is s q h1 41 h3), HD1.out]
                        clear h3 HR0
                        go_upto_region 24 with fail
                        go_cut [7] from 17 (fun v7 wx => v7 = .int .i64 ((q + 1 : Nat) : Int) ∧ wx = set6 wr w.heap.size (.int .i64 (hd0 m0 f ⟨#[]⟩).kind) (.int .i64 (hd0 m0 f ⟨#[]⟩).form) (.string (hd0 m0 f ⟨#[]⟩).text) (.int .i64 (hd0 m0 f ⟨#[]⟩).line) (.int .i64 (hd0 m0 f ⟨#[]⟩).col) (.slice a acc.length c))
                        case first =>
                          go_wp2_with fail
                          go_meet
                          case rel => exact ⟨by simp, rfl⟩
                        case rest =>
                          obtain ⟨rfl, rfl⟩ := hcut
                          repeat go_step
                          refine bodyPost_ret (res_node Tryd.results42 rfl (Lies.all6 LR.out (hd0 m0 f ⟨#[]⟩) (.slice a acc.length c))) rfl ?_
                          exact ⟨_, foL acc, a, acc.length, c, _, rfl, ((NO.out.on (by have := HA.out.1; have := HQ.out.1; have := HS.out; unfold maxLen; omega)).set6 (fun b hb => by have := NBE.out; omega) _ _ _ _ _ _).less (fun b hb => by have := NBE.out; omega), set6_below BW.out (Nat.le_refl _) _ _ _ _ _ _, .good HR.out (by rw [rest_len]; omega)⟩
                      · have x3 : (((s[q].toNat : Nat) : Int) != 41) = true := by rw [bne_iff_ne]; omega
                        have HR : Hid (readT deep (rest s p) = .error (-1)) := by
                          unfold Hid
                          rw [HR0.out]
                          unfold nodeR2
                          dsimp only
                          rw [if_neg (head_not s q h1 41 (by omega) h3)]
                        clear h3 HR0
                        go_upto_region 23 with fail
                        go_cut [7] from 17 (fun v7 wx => v7 = .int .i64 (-1) ∧ wx = set6 wr w.heap.size (.int .i64 0) (.int .i64 0) (.string ⟨#[]⟩) (.int .i64 0) (.int .i64 0) (.slice none 0 0))
                        case first =>
                          go_wp2_with fail
                          go_meet
                          case rel => exact ⟨rfl, rfl⟩
                        case rest =>
                          obtain ⟨rfl, rfl⟩ := hcut
                          repeat go_step
                          refine bodyPost_ret (res_node Tryd.results42 rfl (Lies.all6 LR.out ⟨0, 0, ⟨#[]⟩, 0, 0⟩ (.slice none 0 0))) rfl ?_
                          exact .bad rfl (set6_below (BW.out) (Nat.le_refl _) _ _ _ _ _ _) HR.out
                  · have d1 : decide ((q : Int) < (s.size : Int)) = false := decide_eq_false (by omega)
                    have d1n : decide (q < s.size) = false := decide_eq_false h1
                    have d2 : decide ((s.size : Int) ≤ (q : Int)) = true := decide_eq_true (by omega)
                    have d2n : decide (s.size ≤ q) = true := decide_eq_true (by omega)
                    have HR : Hid (readT deep (rest s p) = .error (-1)) := by
                      unfold Hid
                      rw [HT3.out, ← HB.out, behind_end (head_no s q (by omega) 32)]
                      unfold nodeR2
                      dsimp only
                      rw [if_neg (head_no s q (by omega) 41)]
                    clear HT3 HB
                    go_upto_region 23 with fail
                    go_cut [7] from 17 (fun v7 wx => v7 = .int .i64 (-1) ∧ wx = set6 wr w.heap.size (.int .i64 0) (.int .i64 0) (.string ⟨#[]⟩) (.int .i64 0) (.int .i64 0) (.slice none 0 0))
                    case first =>
                      go_wp2_with fail
                      go_meet
                      case rel => exact ⟨rfl, rfl⟩
                    case rest =>
                      obtain ⟨rfl, rfl⟩ := hcut
                      repeat go_step
                      refine bodyPost_ret (res_node Tryd.results42 rfl (Lies.all6 LR.out ⟨0, 0, ⟨#[]⟩, 0, 0⟩ (.slice none 0 0))) rfl ?_
                      exact .bad rfl (set6_below (BW.out) (Nat.le_refl _) _ _ _ _ _ _) HR.out
  · have d1 : decide ((1000 : Int) < (deep : Int)) = true := decide_eq_true (by omega)
    have d1n : decide (1000 < deep) = true := decide_eq_true (by omega)
    have HR : Hid (readT deep (rest s p) = .error (-2)) := by
      unfold Hid readT nodeR
      rw [if_pos (by omega)]
    clear hdeep
    go_enter Tryd.func42, Tryd.ntmps42
    go_wp2_with fail
    refine bodyPost_ret (res_node Tryd.results42 rfl (Lies.new w z6)) rfl ?_
    exact .bad rfl (below_one w _) HR.out
end Go.Proofs.YtmandanmndmnhaaDoor.Tre
