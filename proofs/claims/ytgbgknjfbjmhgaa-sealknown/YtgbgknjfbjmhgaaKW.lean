/- The walk of lariatlaw3.SealKnown. -/
import Derived.Test.YtgbgknjfbjmhgaaKnown
namespace Go.Proofs.Ytgbgknjfbjmhgaa
open Go.RowKit

theorem hnot (x : Bool) (w : World) : (Op.unary .not (.bool x)).run Try.prog w = .ok (.bool (!x)) w := rfl
def one1 : List Nat := [1]
theorem one1_sum1 : sum1 one1 = 16777216 := by decide
theorem one1_sum2 : sum2 one1 = 16777216 := by decide
theorem nil_sum1 : sum1 [] = 0 := by decide
theorem nil_sum2 : sum2 [] = 0 := by decide

set_option maxRecDepth 100000 in
set_option maxHeartbeats 1600000 in
theorem known_law (w : World) : Calls Try.prog 3 #[] w fun e w' => e = .returned (.bool true) ∧ Below w.heap.size w w' := by
  have hn := hnot
  have hmk85 : ∀ w : World, (Instr.makeSlice 25 (.int .i64 85) (.int .i64 85)).run Try.prog w = .ok (.slice (some ⟨w.heap.size, 0, none⟩) 85 85) (w.alloc (.cells (cells (zeros 85)).toArray 5)) := make_bytes 85 (by decide)
  have hmk84 : ∀ w : World, (Instr.makeSlice 25 (.int .i64 84) (.int .i64 84)).run Try.prog w = .ok (.slice (some ⟨w.heap.size, 0, none⟩) 84 84) (w.alloc (.cells (cells (zeros 84)).toArray 5)) := make_bytes 84 (by decide)
  go_enter Try.func3, Try.ntmps3
  go_wp2_with fail
  refine (known_any _).mono ?_
  rintro e w1 ⟨rfl, T1'⟩
  have T1 := Lib.hid T1'
  clear T1'
  go_wp2_with fail
  refine (sums_any _ [] 0 0 _ (Has.nil _ _) rfl (by omega) (by omega)).mono ?_
  rintro e w' ⟨rfl, rfl⟩
  rw [nil_sum1, nil_sum2]
  go_wp2_with fail
  refine (sums_any _ one1 1 1 _ (Has.new w1 one1 (by decide) (0, 0)) rfl (by omega) (by omega)).mono ?_
  rintro e w2 ⟨rfl, h1⟩
  rw [one1_sum1, one1_sum2]
  have T2 : Hid (Old w w2) := by rw [← h1]; exact T1.out.alloc _
  clear T1 h1
  go_wp2_with fail
  refine (close_long _ 85 85 _ (by omega)).mono ?_
  rintro e w3 ⟨rfl, h1⟩
  have T3 : Hid (Old w w3) := by rw [← h1]; exact T2.out.alloc _
  clear T2 h1
  go_wp2_with fail
  refine (close_any _ (zeros 84) 84 84 _ (Own.new w3 (zeros 84) (zeros_byte 84)).has (zeros_length 84) (by omega)).mono ?_
  rintro e w4 ⟨rfl, O4, T4'⟩
  have T4 : Hid (Old w w4) := (T3.out.alloc _).trans T4'
  have HO4 := Lib.hid O4
  clear O4 T4' T3 hmk84 hmk85
  simp only [World.size_alloc] at HO4 ⊢
  generalize w3.heap.size + 1 = g at *
  go_wp2_with fail
  refine (known_any _).mono ?_
  rintro e w5 ⟨rfl, T5'⟩
  have T5 := Lib.hid (T4.out.trans T5')
  clear T5' T4 HO4
  go_wp2_with fail
  refine (open_other _ 95 96 _ (by omega)).mono ?_
  rintro e w' ⟨rfl, rfl⟩
  go_wp2_with fail
  refine (known_any _).mono ?_
  rintro e w6 ⟨rfl, T6'⟩
  have T6 := Lib.hid (T5.out.trans T6')
  clear T6' T5
  go_wp2_with fail
  go_ret
  exact ⟨rfl, T6.out.below (Nat.le_refl _) (fun _ _ h => h)⟩
end Go.Proofs.Ytgbgknjfbjmhgaa
