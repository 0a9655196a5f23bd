/- What the laid variables give; what the lifted theorems stand on. -/
import Derived.Test.YtdfodmnjgpgojaaDoorRows
import Derived.Test.YtdfodmnjgpgojaaDoorTks
import Derived.WalkKit
import Derived.ProofKit
import Derived.MakeChecks
import Derived.LaidSub
import Derived.Lay
import Derived.OpenShut
import Derived.ShutString
import Derived.ChangeOld
import Derived.Deep.Slices
namespace Go.Proofs.YtdfodmnjgpgojaaDoor
open Go.ChangeShapes Go.WideShapes Go.ChangeAt Go.RowKit
set_option maxRecDepth 100000

theorem own : ownKnob Tryd.prog.godebug = none := by kernel_rfl
theorem laidOut : laidOutB Tryd.prog = true := by kernel_rfl
theorem one9 : Tryd.prog.cellsOf 9 = 1 := by kernel_rfl

/-- A table of texts that is laid. -/
theorem tbl_of_laid {n : String} {g t N : Nat} {l : List ByteArray} {W : World} (hg : Tryd.prog.globalNamed n = some g) (ht : (Tryd.prog.globals[g]?).map (·.type) = some t) (hu : Tryd.prog.underlying t = some (.array N 9)) (hl : l.length = N)
    (h : laidMet Tryd.prog [(n, .agg (l.map fun s => .lit (.string s.data.toList)))] W) : Tbl W g l := by
  obtain ⟨ps, ⟨g0, t0, cs0, f0, p0, q0, hg0, ht0, hv0, hd0, _, _⟩, _, _⟩ := h
  obtain rfl := Option.some.inj (hg.symm.trans hg0)
  obtain rfl := Option.some.inj (ht.symm.trans ht0)
  obtain ⟨xs, m, rfl, hx, hlen, hn, hel⟩ := DataW.trod_array hu hd0
  intro i hi
  have hiN : i < N := by omega
  have he := hel i hiN
  rw [one9, Nat.mul_one] at he
  have hcell := World.var?_cell hg hv0 i
  rw [Array.getElem?_toList.symm] at hcell
  generalize cs0.toList = L at *
  obtain ⟨hx1, _⟩ := Prod.mk.inj hx
  have hx2 : xs.map (·.1) = l.map fun s => DataW.lit (.string s.data.toList) := by
    injection hx1 with hx1
    exact hx1.symm
  have hxi : i < xs.length := by omega
  rw [List.getElem?_eq_getElem hxi] at he
  obtain ⟨s, e1, e2, _⟩ := DataW.trod_string Tryd.underlying9 he
  have e3 : (xs.map (·.1))[i]? = some (.lit (.string s.data.toList)) := by
    rw [List.getElem?_map, List.getElem?_eq_getElem hxi, e2]
    rfl
  rw [hx2, List.getElem?_map, List.getElem?_eq_getElem hi] at e3
  have e4 : l[i].data.toList = s.data.toList := by simpa using e3
  have e5 : l[i] = s := by
    apply ByteArray.ext
    exact Array.ext' e4
  have e6 : L[i]? = some (.string s) := by
    have := congrArg List.head? e1
    rw [List.head?_take, if_neg (by decide)] at this
    simpa using this
  rw [hcell, e6, List.getD_eq_getElem?_getD, List.getElem?_eq_getElem hi, e5]
  rfl
theorem laid_one {l : List (String × DataW Unit)} {n : String} {d : DataW Unit} {W : World} (h : laidMet Tryd.prog l W) (hf : (l.filter fun x => x.1 == n) = [(n, d)]) : laidMet Tryd.prog [(n, d)] W := by
  rw [← hf]
  exact h.filter _
theorem signs_laid {l : List (String × DataW Unit)} {W : World} (h : laidMet Tryd.prog l W) (hf : (l.filter fun x => x.1 == "lariat/lex.signs") = [("lariat/lex.signs", Rows.laid_lariat_lex_signs)]) : Tbl W 3 sgTab :=
  tbl_of_laid (n := "lariat/lex.signs") (by kernel_rfl) (by kernel_rfl) Tryd.underlying62 rfl (laid_one h hf)
end Go.Proofs.YtdfodmnjgpgojaaDoor
