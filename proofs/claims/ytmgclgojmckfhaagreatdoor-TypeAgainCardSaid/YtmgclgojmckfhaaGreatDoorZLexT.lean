/-
  That the row's listed variables hold what the program's text lays in them gives the program's list of names, as the lexer's contracts ask for it.
-/
import Derived.Test.YtmgclgojmckfhaaGreatDoorZQtA
import Derived.MakeChecks
import Derived.LaidMore
import Derived.Stop.LaidErr
import Derived.Lib.ItoaNum
namespace Go.Proofs.YtmgclgojmckfhaaGreatDoor.Qt
open Go.RowKit Gly
set_option linter.unusedSimpArgs false
set_option linter.unusedVariables false

theorem cells_of_strs {H : Type} {enc : TypeId × Value → H} {P : Program} {w : World} {base : Nat} {sp : Nat → Bool} {held : Bool} {fuel : Nat} {t e : TypeId} {n : Nat} {cs : List Value} {zs : List (List UInt8)} {p : List MemPlace}
    (ht : P.underlying t = some (.array n e)) (he : P.underlying e = some .string) (hce : P.cellsOf e = 1) (hct : P.cellsOf t = n)
    (h : DataW.trod enc P w base sp held fuel t cs = some (.agg (zs.map fun z => .lit (.string z)), p)) : cs = zs.map fun z => Value.string ⟨z.toArray⟩ := by
  cases fuel with
  | zero => simp [DataW.trod] at h
  | succ fuel =>
    simp only [DataW.trod, ht, hce, hct, Nat.mul_one] at h
    split at h
    · rename_i hl
      obtain ⟨xs, hm, hx⟩ := Option.map_eq_some_iff.1 h
      have hxs : xs.map (·.1) = zs.map fun z => (DataW.lit (.string z) : DataW H) := by
        have := congrArg Prod.fst hx
        simpa using this
      have hxl : xs.length = n := by simpa using Lib.mapM_length hm
      have hzl : zs.length = n := by
        have := congrArg List.length hxs
        simp at this
        omega
      apply List.ext_getElem?
      intro i
      by_cases hi : i < n
      · obtain ⟨b, hb, hf⟩ := Lib.mapM_at hm i i (by simp [hi])
        obtain ⟨z, hc, rfl, _⟩ := DataW.trod_string he hf
        have h1 : cs[i]? = some (.string z) := by
          have := congrArg (·[0]?) hc
          simpa [List.getElem?_take, List.getElem?_drop] using this
        have h2 : (xs.map (·.1))[i]? = some (DataW.lit (.string z.data.toList) : DataW H) := by simp [hb]
        rw [hxs] at h2
        simp only [List.getElem?_map, Option.map_eq_some_iff, DataW.lit.injEq, Lit.string.injEq] at h2
        obtain ⟨z', hz', rfl⟩ := h2
        simp [h1, hz']
      · rw [List.getElem?_eq_none (by omega), List.getElem?_eq_none (by simp; omega)]
    · cases h
theorem nam_datum : (Rows.laid_offside_quote_names : DataW Unit) = .agg (namesL.map fun z => .lit (.string z)) := by kernel_rfl
theorem nam_of_head {W : World} {rest : List (String × DataW Unit)} (h : laidMet Tryz.prog ((namN, .agg (namesL.map fun z => .lit (.string z))) :: rest) W) : Nam W := by
  obtain ⟨ps, ⟨g', t', cs, fuel, p, q, hg', ht', hvar, hd, _, _⟩, _⟩ := h
  obtain rfl := Option.some.inj (nam_named.symm.trans hg')
  have hty : (Tryz.prog.globals[3]?).map (·.type) = some 162 := by kernel_rfl
  obtain rfl := Option.some.inj (hty.symm.trans ht')
  unfold Nam
  rw [hvar]
  have := cells_of_strs (n := 33) (e := 9) Tryz.underlying162 Tryz.underlying9 (by kernel_rfl) (by kernel_rfl) hd
  unfold namCs
  rw [← this]
end Go.Proofs.YtmgclgojmckfhaaGreatDoor.Qt
namespace Go.Proofs.YtmgclgojmckfhaaGreatDoor.Lx
open Go.RowKit Gly
def Tab (w : World) : Prop := Qt.Nam w
theorem tab_of_laid (W : World) (h : laidMetH Tryz.prog Rows.typeAgainRow.laid W) : Tab W := by
  rw [MakeChecks.laidMetH_plain _ _ _ (by kernel_rfl)] at h
  have h1 : laidMet Tryz.prog ((Qt.namN, Rows.laid_offside_quote_names) :: ("unicode/utf8.first", Rows.laid_unicode_utf8_first) :: []) W := laidMet.tail h
  rw [Qt.nam_datum] at h1
  exact Qt.nam_of_head h1
end Go.Proofs.YtmgclgojmckfhaaGreatDoor.Lx
