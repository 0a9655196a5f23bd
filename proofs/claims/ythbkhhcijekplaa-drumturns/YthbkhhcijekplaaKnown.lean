/- The contract of lariatlaw4.known. -/
import Derived.Test.YthbkhhcijekplaaSt
namespace Go.Proofs.Ythbkhhcijekplaa
open Go.RowKit

def kn1 : DS := (DS.new 10).lay 1 (same (byteOf 1))
def kn2 : DS := kn1.fall (partOf [] 0 2)
theorem kn_err : (DS.new 10).err = 0 := by rfl
theorem kn_look1 : at0 (kn2.seen.getD 1 []) 1 = 1 := by kernel_rfl
theorem kn_look2 : at0 (kn2.seen.getD 1 []) 2 = 0 := by kernel_rfl
theorem kn_len : (kn2.seen.getD 1 []).length = 96 := by kernel_rfl
theorem kn_turns : kn1.turns = 1 := by kernel_rfl
theorem kn_down : kn2.down = false := by kernel_rfl
theorem kn_T : kn2.T.length = 10 := by kernel_rfl
theorem kn_A : kn2.A.length = 0 := by kernel_rfl
theorem kn_turns2 : kn2.turns = 1 := by kernel_rfl

set_option maxRecDepth 100000 in
set_option maxHeartbeats 1600000 in
theorem known_any (w : World) : Calls Try.prog 8 #[] w fun e w' => e = .returned (.bool true) ∧ Old w w' := by
  go_enter Try.func8, Try.ntmps8
  go_wp2_with fail
  refine (new_st (w0 := w) 10 (by omega) (by omega) (Touch.refl _ _)).mono ?_
  rintro e w1 ⟨d, b, rfl, S1, _⟩
  have HS1 := Lib.hid S1
  clear S1
  go_wp2_with fail
  refine (all_any 1 w1).mono ?_
  rintro e w2 ⟨rfl, K2, O2⟩
  have HS2 := Lib.hid (HS1.out.step O2)
  have HK2 := Lib.hid K2
  clear K2 O2 HS1
  generalize w1.heap.size = g at *
  go_wp2_with fail
  refine (lay_st HS2.out (by decide) 1 g (same (byteOf 1)) (by decide) (same_trk (byteOf_lt 1)) HK2.out 96).mono ?_
  rintro e w3 ⟨rfl, ⟨b3, S3⟩, _, _⟩
  rw [kn_err]
  have HS3 : Hid (St w d b3 kn1 w3) := S3
  clear S3 HS2 HK2
  go_wp2_with fail
  refine (fall_st HS3.out (by rw [kn_turns]; omega) none [] 0 0 0 2 (HasI.nil _ _) rfl (by omega)).mono ?_
  rintro e w4 ⟨rfl, ⟨b4, S4⟩, _, _⟩
  have HS4 : Hid (St w d b4 kn2 w4) := S4
  clear S4 HS3
  go_wp2_with fail
  refine (look_st HS4.out 1 (by rw [kn_T]; omega) kn_down).mono ?_
  rintro e w5 ⟨g5, rfl, _, K5, O5⟩
  have hc1 : w5.cell? ⟨g5, 1, none⟩ = some (.int .u8 1) := by rw [K5.cell, cells_get _ _ (by rw [kn_len]; omega), kn_look1]; rfl
  have hc2 : w5.cell? ⟨g5, 2, none⟩ = some (.int .u8 0) := by rw [K5.cell, cells_get _ _ (by rw [kn_len]; omega), kn_look2]; rfl
  have HS5 := Lib.hid (HS4.out.step O5)
  clear K5 O5 HS4
  go_wp2_with fail
  refine (afloat_any d b4 kn2 _ w5 HS5.out.dr.at_ HS5.out.dr.ok (by rw [kn_turns2]; omega)).mono ?_
  rintro e w6 ⟨rfl, _, O6⟩
  rw [kn_A]
  have HO := Lib.hid (HS5.out.old.trans O6)
  clear O6 HS5 hc1 hc2
  go_wp2_with fail
  go_ret
  exact ⟨rfl, HO.out⟩
end Go.Proofs.Ythbkhhcijekplaa
