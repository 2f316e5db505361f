/-
  The law TypeAgain. Conditions: the string has at most 2^47 - 4096 bytes; the program's list of names stands.
-/
import Derived.Test.YtmgclgojmckfhaaGreatDoorZAgm
import Derived.Test.YtmgclgojmckfhaaGreatDoorZPro
import Derived.Test.YtmgclgojmckfhaaGreatDoorZLexC
import Derived.Test.YtmgclgojmckfhaaGreatDoorZLexB
import Derived.Test.YtmgclgojmckfhaaGreatDoorZLvs
import Derived.Test.YtmgclgojmckfhaaGreatDoorZTreB
namespace Go.Proofs.YtmgclgojmckfhaaGreatDoor.Lx
open Go.RowKit Gly
set_option linter.unusedSimpArgs false
set_option linter.unusedVariables false

theorem tailS_app : ∀ a b : List (Int × List UInt8), tailS (a ++ b) = tailS a ++ tailS b
  | [], b => rfl
  | t :: a, b => by
    rw [List.cons_append, tailS, tailS, tailS_app a b, List.cons_append, List.append_assoc]
theorem tailS_take (r : List (Int × List UInt8)) (j : Nat) : (tailS (r.take j)).length ≤ (tailS r).length := by
  have e := tailS_app (r.take j) (r.drop j)
  rw [List.take_append_drop] at e
  rw [e, List.length_append]
  omega
/-- What is spelt of a text's first tokens is taken apart into these. -/
theorem part_is (s t : ByteArray) (j : Nat) (h : errS s = 0) (hz : s.size ≤ 2000) (ht : t.data.toList = spellS ((tokS s).take j)) :
    t.size ≤ 4000 ∧ errS t = 0 ∧ tokS t = (tokS s).take j := by
  obtain ⟨h1, h2, h3⟩ := err_ok s h
  have hx := lexS_lx s h2
  have hsz : t.size ≤ 4000 := by
    have q1 := hx.spelt
    have q2 := spellS_le ((tokS s).take j)
    have q3 := tailS_take (tokS s) j
    unfold tokS at q2 q3 ht
    rw [← Lib.size_eq] at q1
    rw [Lib.size_eq, ht]
    omega
  have hg : ∀ u ∈ (tokS s).take j, Good u := fun u hu => hx.good u (List.mem_of_mem_take hu)
  have hl := lx_lexS t (by rw [ht]; exact spellS_lx _ hg)
  have hok : Ok t.data.toList := by
    rw [ht]
    exact spellS_ok _ (fun u hu => (hx.ok (runes_ok s h1).1) u (List.mem_of_mem_take hu))
  obtain ⟨r1, -⟩ := ok_runes t hok (by omega)
  refine ⟨hsz, ?_, ?_⟩
  · unfold errS
    rw [if_neg (by omega)]
    exact hl.1
  · show toks ((lexS t).1.map (itm t)) = _
    rw [hl.2]
    unfold toks
    rw [List.filter_eq_self]
    intro u hu
    have := (hg u hu).2.2
    exact decide_eq_true (by omega)
theorem kinds_is (s : ByteArray) (h : errS s = 0) : ∀ u ∈ tokS s, 1 ≤ u.1 ∧ u.1 ≤ 15 := by
  obtain ⟨h1, h2, h3⟩ := err_ok s h
  intro u hu
  obtain ⟨g1, -, -⟩ := (lexS_lx s h2).good u hu
  have k := lex_kind u.2 (by rw [g1])
  rw [g1] at k
  exact ⟨k.1, k.2.1⟩
end Go.Proofs.YtmgclgojmckfhaaGreatDoor.Lx
namespace Go.Proofs.YtmgclgojmckfhaaGreatDoor.Typ
open Tks Tre Go.RowKit
open Lay (Sx StV Fit9 nextS NextOut tkV9 IntArg Kp)
set_option linter.unusedSimpArgs false
set_option linter.unusedVariables false

/-- The lexer's tokens, as the layout reads them. -/
def cv (t : Lx.Tk) : Tk := ⟨t.kind, t.text, t.line, t.col⟩
theorem cv_arg {w : World} {v : Value} {l : List Lx.Tk} (h : Lx.TkArg w v l) : TkArg w v (l.map cv) := by
  rcases h with ⟨rfl, a, c, rfl⟩ | ⟨b, off, c, rfl, hb, hc⟩
  · exact .inl ⟨rfl, a, c, rfl⟩
  · refine .inr ⟨b, off, c, by rw [List.length_map], hb, fun i t ht k hk => ?_⟩
    rw [List.getElem?_map] at ht
    obtain ⟨u, hu, rfl⟩ := Option.map_eq_some_iff.1 ht
    exact hc i u hu k hk
theorem arg_cv {w : World} {v : Value} {l : List Lx.Tk} (h : TkArg w v (l.map cv)) : Lx.TkArg w v l := by
  rcases h with ⟨e, a, c, rfl⟩ | ⟨b, off, c, rfl, hb, hc⟩
  · exact .inl ⟨List.map_eq_nil_iff.1 e, a, c, rfl⟩
  · refine .inr ⟨b, off, c, by rw [List.length_map], hb, fun i t ht k hk => ?_⟩
    exact hc i (cv t) (by rw [List.getElem?_map, ht]; rfl) k hk
theorem key_cv (l : List Lx.Tk) : (l.map cv).map keyT = l.map Lx.keyT := by
  rw [List.map_map]
  rfl
/-- The tokens of a text. -/
def lexT (s : ByteArray) : List Tk := ((Lx.toksL (Lx.itemsS s)).map (Lx.tkOf s)).map cv
theorem lexT_key (s : ByteArray) (h : Lx.errS s = 0) : (lexT s).map keyT = Lx.tokS s := by
  unfold lexT
  rw [key_cv, Lx.tokS_items s h]
theorem lexT_plain (s : ByteArray) (h : Lx.errS s = 0) : ∀ t ∈ lexT s, PlainT t := fun t ht => by
  have hm : keyT t ∈ Lx.tokS s := by
    rw [← lexT_key s h]
    exact List.mem_map_of_mem ht
  exact Lx.kinds_is s h _ hm
theorem lexT_len (s : ByteArray) : (lexT s).length = (Lx.toksL (Lx.itemsS s)).length := by
  unfold lexT
  rw [List.length_map, List.length_map]
theorem again_math (s : ByteArray) (deep : Int) (hz : s.size ≤ 2000) (he : Lx.errS s = 0) (hx : (fullS (at' (lexT s) 0) deep).e = 0) :
    ∃ ls : List Lx.Tk, leavesN (fullS (at' (lexT s) 0) deep).h (fullS (at' (lexT s) 0) deep).k = ls.map cv ∧ ls.length ≤ 16777216 ∧ (Lib.join (ls.map fun t => t.text.data.toList) [32]).length ≤ 4000 ∧
      (Lx.spellT ls).size ≤ 4000 ∧ Lx.errS (Lx.spellT ls) = 0 ∧ (fullS (at' (lexT (Lx.spellT ls)) 0) deep).e = 0 ∧ (fullS (at' (lexT (Lx.spellT ls)) 0) deep).s.at_ = ((lexT (Lx.spellT ls)).length : Int) ∧
      (sameH (fullS (at' (lexT (Lx.spellT ls)) 0) deep).h (fullS (at' (lexT s) 0) deep).h && sameF (fullS (at' (lexT (Lx.spellT ls)) 0) deep).k (fullS (at' (lexT s) 0) deep).k) = true := by
  obtain ⟨j, h1, h2, h3⟩ := full_take (lexT_plain s he) deep hx
  have e1 : (lexT s).take j = (((Lx.toksL (Lx.itemsS s)).map (Lx.tkOf s)).take j).map cv := by
    unfold lexT
    rw [List.map_take]
  have e2 : (((Lx.toksL (Lx.itemsS s)).map (Lx.tkOf s)).take j).map Lx.keyT = (Lx.tokS s).take j := by
    rw [List.map_take, Lx.tokS_items s he]
  obtain ⟨st, sj⟩ := Lx.spellT_is (((Lx.toksL (Lx.itemsS s)).map (Lx.tkOf s)).take j)
  rw [e2] at st sj
  obtain ⟨p1, p2, p3⟩ := Lx.part_is s _ j he hz st
  have hlen : (((Lx.toksL (Lx.itemsS s)).map (Lx.tkOf s)).take j).length ≤ 16777216 := by
    have := Lx.toks_bd2 s
    rw [List.length_take, List.length_map]
    omega
  refine ⟨((Lx.toksL (Lx.itemsS s)).map (Lx.tkOf s)).take j, h3.trans e1, hlen, ?_, p1, p2, ?_⟩
  · rw [sj, ← st, ← Lib.size_eq]
    exact p1
  · refine full_again (lexT_plain s he) deep hx ?_
    rw [lexT_key _ p2, p3, h3, e1, key_cv, e2]
end Go.Proofs.YtmgclgojmckfhaaGreatDoor.Typ
