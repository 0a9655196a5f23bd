/- Arguments that came in, opened: slices of numbers; what a law of a text comes from; the tables. -/
import Derived.Test.YtdfodmnjgpgojaaDoorOpL
import Derived.Test.YtdfodmnjgpgojaaDoorStnW
namespace Go.Proofs.YtdfodmnjgpgojaaDoor
open Go.ChangeShapes Go.WideShapes Go.ChangeAt Go.RowKit
set_option maxRecDepth 100000

abbrev laidT : List (String × DataW Unit) := [("lariat/lex.signs", Rows.laid_lariat_lex_signs), ("lariat/lariathand.vars", Rows.laid_lariat_lariathand_vars), ("lariat/lariathand.procs", Rows.laid_lariat_lariathand_procs), ("lariat/lariathand.locs", Rows.laid_lariat_lariathand_locs)]
theorem metT (os : Os) (args : Array Value) : laidMetH Tryd.prog laidT ((World.laidAll Tryd.prog os laidT).forCall (fun _ _ => 0) ⟨#[], args, []⟩).memory := by
  rw [MakeChecks.laidMetH_plain _ _ _ (by kernel_rfl)]
  exact laidMet_laidAll _ (by kernel_rfl) (by kernel_rfl)
theorem one3 : Tryd.prog.cellsOf 3 = 1 := by kernel_rfl
/-- A slice of numbers that came in. -/
theorem ints_open {H : Type} {enc : TypeId × Value → H} {W : World} {a : Option Addr} {len cap : Nat} {d : DataW H} {p : List MemPlace}
    (h : DataW.Trod enc Tryd.prog W 0 (fun _ => true) true 31 (.slice a len cap) d p) : ∃ ys : List Int, ys.length = len ∧ len ≤ cap ∧ cap ≤ maxLen ∧ HasI W a ys := by
  obtain ⟨fuel, hf⟩ := h
  rcases open_ints Tryd.underlying31 Tryd.underlying3 one3 hf with ⟨hcs, _⟩ | ⟨x, l, c, zs, hcs, _, hl, hm, hz, _, hcell, hwz⟩
  · simp [Value.cells] at hcs
    obtain ⟨rfl, rfl, rfl⟩ := hcs
    exact ⟨[], rfl, Nat.le_refl _, Nat.zero_le _, HasI.nil _ _⟩
  · simp [Value.cells] at hcs
    obtain ⟨rfl, rfl, rfl⟩ := hcs
    simp only [if_true] at hz
    refine ⟨zs.take len, by simp; omega, hl, hm, ⟨fun i hi => ?_⟩⟩
    have hi' : i < len := by simp at hi; omega
    have hiz : i < zs.length := by omega
    have hc := hcell i hiz
    obtain ⟨b, off, spot⟩ := x
    have hspot : spot = none := by
      have h0 := hcell 0 (by omega)
      simpa [Addr.add] using World.cell?_spot h0
    subst hspot
    simp only [add_plain] at hc
    refine ⟨b, off, rfl, ?_⟩
    rw [hc]
    simp only [List.getD_eq_getElem?_getD, List.getElem?_take_of_lt hi', List.getElem?_eq_getElem hiz, Option.getD_some]

theorem src_open {H : Type} {enc : TypeId × Value → H} {W : World} {a b : Option Addr} {len cap len1 cap1 : Nat} {d d1 : DataW H} {p p1 : List MemPlace} {raw : ByteArray} (hL : laidMet Tryd.prog laidT W)
    (h : DataW.Trod enc Tryd.prog W 0 (fun _ => true) true 31 (.slice a len cap) d p) (h1 : DataW.Trod enc Tryd.prog W 0 (fun _ => true) true 31 (.slice b len1 cap1) d1 p1) (hr : raw.size ≤ maxLen) : Src W a len b len1 raw := by
  obtain ⟨ys, y1, y2, y3, y4⟩ := ints_open h
  obtain ⟨zs, z1, z2, z3, z4⟩ := ints_open h1
  exact ⟨⟨⟨ys, y1, y4⟩, by omega,
    tbl_of_laid (n := "lariat/lariathand.vars") (by kernel_rfl) (by kernel_rfl) Tryd.underlying55 rfl (laid_one hL (by kernel_rfl)),
    tbl_of_laid (n := "lariat/lariathand.procs") (by kernel_rfl) (by kernel_rfl) Tryd.underlying55 rfl (laid_one hL (by kernel_rfl)),
    tbl_of_laid (n := "lariat/lariathand.locs") (by kernel_rfl) (by kernel_rfl) Tryd.underlying57 rfl (laid_one hL (by kernel_rfl))⟩,
    ⟨zs, z1, z4⟩, by omega, hr, signs_laid hL (by kernel_rfl)⟩
end Go.Proofs.YtdfodmnjgpgojaaDoor
