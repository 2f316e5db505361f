/-
  The contracts of place.Lines, of the document's own Lines, and of Same at equal lists. Condition: the string has at most 2^40 bytes.
-/
import Derived.Test.YtcbjcgbfdniieaaDoorPlcCut
import Derived.Test.YtcbjcgbfdniieaaDoorPlcCode
import Derived.OwnWalk
import Derived.Laws.OwnMore
import Derived.Deep.AppendLies
namespace Go.Proofs.YtcbjcgbfdniieaaDoor.Plc
open Go.RowKit Gly
set_option linter.unusedSimpArgs false

theorem infoStr : (Tryd.prog.info? 9).map (fun i => (i.zero, i.size, i.bytes)) = some (some (.string ⟨#[]⟩), 1, 16) := by kernel_rfl
theorem own_ne_iter {w : World} {base k : Nat} {e : TypeId} {size n : Nat} {v : Value} {xs : List Value} {s : ByteArray} {p : Nat} (h : w.ownsRow base e size v n xs) (hk : w.heap[k]? = some (.stringIter s p)) : v.ownBlock ≠ some k := by
  rcases h.2 with ⟨rfl, _⟩ | ⟨g, cap, cur, rfl, _, hg, _⟩
  · simp [Value.ownBlock]
  · intro he
    have : g = k := by simpa [Value.ownBlock] using he
    subst this
    rw [hk] at hg
    cases hg
theorem own_iter {w w' : World} {base k : Nat} {e : TypeId} {size n : Nat} {v : Value} {xs : List Value} {s : ByteArray} {p : Nat} (h : w.ownsRow base e size v n xs) (hk : w.heap[k]? = some (.stringIter s p))
    (ho : ∀ j, j ≠ k → w'.heap[j]? = w.heap[j]?) : w'.ownsRow base e size v n xs := by
  have hne := own_ne_iter h hk
  refine ⟨h.1, ?_⟩
  rcases h.2 with hn | ⟨g, cap, cur, rfl, hb, hg, rest⟩
  · exact .inl hn
  · refine .inr ⟨g, cap, cur, rfl, hb, ?_, rest⟩
    rw [ho g (fun e => hne (by rw [e]; rfl))]
    exact hg

theorem nl_is (s : ByteArray) (p k : Nat) (hs : s.size ≤ 1125899906842624) (hp : p < s.size) (h : nlAt s p = k) :
    Hid (∀ w : World, Calls Tryd.prog 45 #[.string (s.extract p s.size)] w fun e w' => e = .returned (.int .i64 (k : Int)) ∧ w = w') := by
  intro w
  have := newline_any (s.extract p s.size) (by rw [size_tail]; omega) (by rw [size_tail]; unfold maxLen; omega) w
  rw [nlAt_tail, h] at this
  exact this

/-- A list of texts in memory of the call's own. -/
def Texts (w : World) (base : Nat) (v : Value) (L : List ByteArray) : Prop := w.ownsRow base 9 1 v L.length (L.map Value.string)
theorem Texts.push {w : World} {base : Nat} {v : Value} {L : List ByteArray} {x : ByteArray} (h : w.ownsRow base 9 1 v (L.length + 1) (L.map Value.string ++ [.string x])) : Texts w base v (L ++ [x]) := by
  unfold Texts
  rw [List.length_append, List.map_append]
  exact h

theorem after_push {w W2 w3 : World} {B : Nat} {v v' : Value} {L : List ByteArray} {x : ByteArray} {o : Obj} (own2 : Texts W2 B v L) (hb2 : Below B w W2) (hBw : B ≤ W2.heap.size)
    (hown' : w3.ownsRow B 9 1 v' (L.length + 1) (L.map Value.string ++ [.string x])) (hgrow : (W2.alloc o).grownBy w3 v.ownBlock) : Texts w3 B v' (L ++ [x]) ∧ Below B w w3 := by
  refine ⟨Texts.push hown', (hb2.alloc hBw o).grown hgrow ?_ (fun k hk => (own2.lt k hk).1)⟩
  rw [World.size_alloc]
  omega
theorem push_iter {W2 w3 : World} {k : Nat} {e : TypeId} {base size n : Nat} {xs : List Value} {v : Value} {o : Obj} {s : ByteArray} {p : Nat} (own2 : W2.ownsRow base e size v n xs) (it : W2.heap[k]? = some (.stringIter s p)) (hgrow : (W2.alloc o).grownBy w3 v.ownBlock) : w3.heap[k]? = some (.stringIter s p) := by
  have hk := lt_of_block it
  rw [hgrow.block k (by rw [World.size_alloc]; omega) (fun e => own_ne_iter own2 it e.symm), Below.heap_alloc _ _ _ hk]
  exact it

set_option maxHeartbeats 2000000 in
theorem lines_any (s : ByteArray) (hs : s.size ≤ 1099511627776) (w : World) :
    Calls Tryd.prog 30 #[.string s] w fun e w' => ∃ v, e = .returned v ∧ Texts w' w.heap.size v (linesL s) ∧ Below w.heap.size w w' := by
  obtain ⟨i0, hi, hz0, hz1, hz2⟩ := info_parts infoStr
  go_enter Tryd.func30, Tryd.ntmps30
  go_wp2
  go_loopw [3, 4] (fun lv bv wr => ∃ (p f b : Nat) (L : List ByteArray), bv = .int .i64 (b : Int) ∧ wr.heap[w.heap.size]? = some (.stringIter s p) ∧ Texts wr w.heap.size lv L ∧ Below w.heap.size w wr ∧ L.length ≤ b ∧ b ≤ s.size ∧ p ≤ s.size ∧
      ((b ≤ p ∧ L ++ cut s f b p = linesL s ∧ s.size ≤ p + f) ∨ (p + 1 = b ∧ bt s p = 10 ∧ L ++ cut s f b b = linesL s ∧ s.size ≤ b + f))) (fun _ _ wr => s.size - wr.iterPos w.heap.size)
  case atStart => exact ⟨0, s.size, 0, [], rfl, World.iter_heap _ _ _, World.ownsRow_nil _ _ _ _, (Below.refl _ _).alloc (Nat.le_refl _) _, by simp, by omega, by omega, .inl ⟨by omega, rfl, by omega⟩⟩
  case round =>
    obtain ⟨p, f, b, L, rfl, hit, hown, hbw, hL, hb, hp0, hq⟩ := hrel
    have HQ := Lib.hid hq
    have HIT := Lib.hid hit
    have HOWN := Lib.hid hown
    have HBW := Lib.hid hbw
    clear hq hit hown hbw
    by_cases hp : p < s.size
    · obtain ⟨W2, hnx, it2, hb2, hz3, ho2⟩ := next_in HIT.out HBW.out (Nat.le_refl _) hp
      have IT2 := Lib.hid it2
      have HB2 := Lib.hid hb2
      have OWN2 : Hid (Texts W2 w.heap.size u3 L) := own_iter HOWN.out HIT.out ho2
      clear it2 hb2 ho2 hz3
      by_cases hpb : p < b
      · have Q : Hid (p + 1 = b ∧ bt s p = 10 ∧ L ++ cut s f b b = linesL s ∧ s.size ≤ b + f) := by
          rcases HQ.out with h | h
          · omega
          · exact h
        have W1 : Hid ((Utf8.decode s p).2 = 1) := width_ascii s p (by have := Q.out.2.1; omega)
        go_wp2_with fail
        go_roundw
        case rel => exact ⟨_, f, b, L, rfl, IT2.out, OWN2.out, HB2.out, hL, hb, width_fits s p hp, .inl ⟨by rw [W1.out]; have := Q.out.1; omega, by rw [W1.out, Q.out.1]; exact Q.out.2.2.1, by rw [W1.out, Q.out.1]; exact Q.out.2.2.2⟩⟩
        case measure => rw [iterPos_of IT2.out, iterPos_of HIT.out, W1.out]; omega
      · have Q : Hid (b ≤ p ∧ L ++ cut s f b p = linesL s ∧ s.size ≤ p + f) := by
          rcases HQ.out with h | h
          · exact h
          · omega
        have b0 : (b : Int) ≤ (p : Int) := by omega
        by_cases n0 : nlAt s p = 0
        · have N := nl_is s p 0 (by omega) hp n0
          have N0 := Lib.hid n0
          clear n0
          go_wp2_with (first | (go_at_call 45; refine (N.out _).mono ?_; rintro e w2 ⟨rfl, rfl⟩))
          go_roundw
          case rel => exact ⟨_, f - (Utf8.decode s p).2, b, L, rfl, IT2.out, OWN2.out, HB2.out, hL, hb, width_fits s p hp, .inl ⟨by have := Q.out.1; omega, by rw [← cut_rune s f b p hp N0.out Q.out.2.2]; exact Q.out.2.1, by have := Q.out.2.2; omega⟩⟩
          case measure => have := width_ge s p; rw [iterPos_of IT2.out, iterPos_of HIT.out]; omega
        · have hk := nlAt_fits s p hp0
          obtain ⟨k, hk1, hk2⟩ : ∃ k, nlAt s p = k ∧ 1 ≤ k := ⟨_, rfl, by omega⟩
          have N := nl_is s p k (by omega) hp hk1
          rw [hk1] at hk
          have hk3 : k ≤ 2 := by rw [← hk1]; exact nlAt_le s p
          have NK := Lib.hid hk1
          have N0 := Lib.hid n0
          clear hk1 n0
          go_wp2_with (first | (go_at_call 45; refine (N.out _).mono ?_; rintro e w2 ⟨rfl, rfl⟩) | (at_builtin; refine wpList_append_own _ rfl _ _ 29 rfl w.heap.size 9 i0 (.string ⟨#[]⟩) 1 16 Tryd.underlying29 hi hz0 hz1 hz2 rfl (by decide) _ _ _ rfl (OWN2.out.alloc _) ⟨W2.heap.size, 0, none⟩ 1 1 [.string (s.extract b p)] rfl rfl ?c1 ?c2 ?c3 ?c4 ?c5 ?_))
          case c1 =>
            intro j u hj
            match j, hj with
            | 0, hj => simp at hj; subst hj; simp [Addr.add]
          case c2 => intro u hu; simp at hu; subst hu; rfl
          case c3 => unfold maxLen; omega
          case c4 => omega
          case c5 => have := HB2.out.size; simp; omega
          intro v' w3 hown' hgrow _
          have R := after_push OWN2.out HB2.out HB2.out.size hown' hgrow
          have IT3 := Lib.hid (push_iter OWN2.out IT2.out hgrow)
          have R2 := Lib.hid R
          clear R hown' hgrow
          go_wp2_with fail
          go_roundw
          case rel =>
            have hQ := Q.out
            have hc := cut_at s f b p hp N0.out hQ.2.2
            rw [NK.out] at hc
            have W1 : (Utf8.decode s p).2 = 1 := by
              have := nlAt_le s p
              rcases (show nlAt s p = 1 ∨ nlAt s p = 2 by have := N0.out; omega) with e | e
              · exact width_ascii s p (by have := (nl_one s p e).2; omega)
              · exact width_ascii s p (by have := (nl_two s p e).2.1; omega)
            refine ⟨_, f - 1, p + k, L ++ [s.extract b p], by go_num, IT3.out, R2.out.1, R2.out.2, by simp; omega, by omega, width_fits s p hp, ?_⟩
            rw [W1]
            have hcat : L ++ [s.extract b p] ++ cut s (f - 1) (p + k) (p + k) = linesL s := by
              rw [List.append_assoc, List.singleton_append, ← hc]
              exact hQ.2.1
            rcases (show k = 1 ∨ k = 2 by omega) with rfl | rfl
            · exact .inl ⟨by omega, hcat, by omega⟩
            · refine .inr ⟨by omega, (nl_two s p NK.out).2.2.1, hcat, by omega⟩
          case measure => have := width_ge s p; rw [iterPos_of IT3.out, iterPos_of HIT.out]; omega
    · have hnx : ∀ ty, (Instr.next (.pointer (some ⟨w.heap.size, 0, none⟩)) true ty).run Tryd.prog wr = .ok (.tuple #[.bool false]) wr := fun ty => Lib.run_next_end_at (P := Tryd.prog) wr w.heap.size s p ty HIT.out hp
      have b0 : (b : Int) ≤ (s.size : Int) := by omega
      have Q : Hid (L ++ [s.extract b s.size] = linesL s) := by
        rcases HQ.out with h | h
        · have := h.2.1
          rw [cut_end _ _ _ _ hp] at this
          exact this
        · omega
      go_wp2_with (first | (at_builtin; refine wpList_append_own _ rfl _ _ 29 rfl w.heap.size 9 i0 (.string ⟨#[]⟩) 1 16 Tryd.underlying29 hi hz0 hz1 hz2 rfl (by decide) _ _ _ rfl (HOWN.out.alloc _) ⟨wr.heap.size, 0, none⟩ 1 1 [.string (s.extract b s.size)] rfl rfl ?d1 ?d2 ?d3 ?d4 ?d5 ?_))
      case d1 =>
        intro j u hj
        match j, hj with
        | 0, hj => simp at hj; subst hj; simp [Addr.add]
      case d2 => intro u hu; simp at hu; subst hu; rfl
      case d3 => unfold maxLen; omega
      case d4 => omega
      case d5 => have := HBW.out.size; simp; omega
      intro v' w3 hown' hgrow _
      have R := after_push HOWN.out HBW.out HBW.out.size hown' hgrow
      have R2 := Lib.hid R
      clear R hown' hgrow
      go_wp2_with fail
      go_ret
      refine ⟨v', rfl, ?_, R2.out.2⟩
      rw [← Q.out]
      exact R2.out.1

end Go.Proofs.YtcbjcgbfdniieaaDoor.Plc
