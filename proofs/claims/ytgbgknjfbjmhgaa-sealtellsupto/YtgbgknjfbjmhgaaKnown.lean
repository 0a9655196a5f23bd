/- The contract of lariatlaw3.known. -/
import Derived.Test.YtgbgknjfbjmhgaaText
namespace Go.Proofs.Ytgbgknjfbjmhgaa
open Go.RowKit

def ex8 : List Nat := [0, 0, 0, 1, 0, 0, 0, 2]
def ab : List Nat := [97, 98]

theorem ex8_byte : ∀ x ∈ ex8, x < 256 := by decide
theorem ab_byte : ∀ x ∈ ab, x < 256 := by decide
theorem ex8_sum1 : sum1 ex8 = 3 := by decide
theorem ex8_sum2 : sum2 ex8 = 5 := by decide
theorem ab3 : (body ab).take 3 = [97, 98, 0] := by decide
theorem ab3_str : strOf [97, 98, 0] = ⟨#[97, 98, 0]⟩ := by rfl

set_option maxRecDepth 100000 in
set_option maxHeartbeats 1600000 in
theorem known_any (w : World) : Calls Try.prog 8 #[] w fun e w' => e = .returned (.bool true) ∧ Old w w' := by
  have kc := fun (w : World) (C : Array Value) (n c : Nat) => Lib.run_convert_bytes_const (P := Try.prog) w 25 5 C n c Try.underlying25 Try.underlying5
  go_enter Try.func8, Try.ntmps8
  go_wp2_with fail
  refine (sums_any _ ex8 8 8 _ (Has.new w ex8 ex8_byte (0, 0)) rfl (by omega) (by omega)).mono ?_
  rintro e w' ⟨rfl, h1⟩
  rw [ex8_sum1, ex8_sum2]
  have T1 : Hid (Old w w') := by rw [← h1]; exact (Touch.refl _ _).alloc _
  clear h1
  go_wp2_with fail
  have T2 := Lib.hid (T1.out.alloc (.cells #[.int .u8 97, .int .u8 98] 5 (2, 3)))
  have H2 := Lib.hid (Has.new w' ab ab_byte (2, 3))
  clear T1 kc
  refine (close_any _ ab 2 2 _ H2.out rfl (by omega)).mono ?_
  rintro e w3 ⟨rfl, O3, T3⟩
  have T4 := Lib.hid (T2.out.trans T3)
  have HO3 := Lib.hid O3
  clear T2 H2 O3 T3
  simp only [World.size_alloc] at HO3 ⊢
  generalize w'.heap.size + 1 = g at *
  go_wp2_with fail
  refine (open_right _ _ 96 w3 HO3.out.has (track_length (by decide)) (by omega) (right_track (by decide))).mono ?_
  rintro e w5 ⟨rfl, O5, T5⟩
  rw [track_take (by decide)] at O5
  have T6 := Lib.hid (T4.out.trans T5)
  have hs := str_any w5 _ _ 3 84 (O5.has.take 3) (by decide)
  rw [ab3, ab3_str] at hs
  clear O5 T5 T4 HO3
  go_wp2_with fail
  go_ret
  exact ⟨rfl, T6.out⟩
end Go.Proofs.Ytgbgknjfbjmhgaa
