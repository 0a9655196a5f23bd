/- The contract of the laws' example (known). -/
import Derived.Test.YtdfodmnjgpgojaaDoorLexW
namespace Go.Proofs.YtdfodmnjgpgojaaDoor
open Go.RowKit Go.PlainAid
set_option maxRecDepth 100000

theorem lexL_known : lexL ⟨#[120, 60, 61, 49, 48]⟩ = [⟨2, ⟨#[120]⟩, 0, 0⟩, ⟨4, ⟨#[60, 61]⟩, 0, 1⟩, ⟨1, ⟨#[49, 48]⟩, 10, 3⟩, ⟨5, ⟨#[]⟩, 0, 5⟩] := by kernel_rfl
theorem lexE_known : lexE ⟨#[120, 60, 61, 49, 48]⟩ = 0 := by kernel_rfl

set_option maxHeartbeats 3200000 in
theorem known_any (w : World) (h : Tbl w 3 sgTab) : Calls Tryd.prog 7 #[] w fun e w' => e = .returned (.bool true) ∧ Old w w' := by
  have HX := Lib.hid (lex_any ⟨#[120, 60, 61, 49, 48]⟩ (by decide) w h)
  go_enter Tryd.func7, Tryd.ntmps7
  go_wp2_with (first
    | (refine HX.out.mono ?_; rintro e w' ⟨a, c, rfl, hc, hT, O⟩
       rw [lexL_known] at hc hT ⊢
       rw [lexE_known]
       generalize lexA ⟨#[120, 60, 61, 49, 48]⟩ = z
       obtain ⟨g, rfl, c0, _, _, _⟩ := hT.cell 0 _ rfl
       obtain ⟨g, e, c4, c5, _, _⟩ := hT.cell 1 _ rfl
       cases e
       obtain ⟨g, e, c8, _, c10, _⟩ := hT.cell 2 _ rfl
       cases e
       obtain ⟨g, e, c12, _, _, c15⟩ := hT.cell 3 _ rfl
       cases e
       have HO := Lib.hid O
       have e4 : (4 : Nat) ≤ c := hc
       clear hT O hc
       simp only [Nat.reduceMul, Nat.reduceAdd, List.length_cons, List.length_nil] at c0 c4 c5 c8 c10 c12 c15 ⊢))
  go_ret
  exact ⟨rfl, HO.out⟩
end Go.Proofs.YtdfodmnjgpgojaaDoor
