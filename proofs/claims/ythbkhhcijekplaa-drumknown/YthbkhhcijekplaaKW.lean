/- The walk of lariatlaw4.DrumKnown. -/
import Derived.Test.YthbkhhcijekplaaKnown
namespace Go.Proofs.Ythbkhhcijekplaa
open Go.RowKit

def sk0 : DS := DS.new 10
def sk1 : DS := sk0.lay 2 (same (byteOf 2))
def sk2 : DS := sk1.lay 3 (same (byteOf 3))
def sk3 : DS := sk2.lay 2 (same (byteOf 4))
def sk4 : DS := sk3.fall (partOf [0, 9, -1] 2 50)
def sk5 : DS := sk4.brk (breakOf 1)
def sk6 : DS := sk5.lay 4 (same (byteOf 5))
def sk7 : DS := sk6.settle
def sk8 : DS := sk7.fall (partOf [] 0 1000)
def two4 : List Nat := sk4.seen.getD 2 []
def three4 : List Nat := sk4.seen.getD 3 []
def four8 : List Nat := sk8.seen.getD 4 []
theorem two_0 : at0 two4 0 = 4 := by kernel_rfl
theorem two_49 : at0 two4 49 = 4 := by kernel_rfl
theorem two_50 : at0 two4 50 = 2 := by kernel_rfl
theorem two_len : two4.length = 96 := by kernel_rfl
theorem three_0 : at0 three4 0 = 0 := by kernel_rfl
theorem three_len : three4.length = 96 := by kernel_rfl
theorem four_95 : at0 four8 95 = 5 := by kernel_rfl
theorem four_len : four8.length = 96 := by kernel_rfl
theorem err0 : sk0.err = 0 := by kernel_rfl
theorem err1 : sk1.err = 0 := by kernel_rfl
theorem err2 : sk2.err = 0 := by kernel_rfl
theorem err5 : sk5.err = 0 := by kernel_rfl
theorem err6 : sk6.err = 4 := by kernel_rfl
theorem err8 : sk8.err = 0 := by kernel_rfl
theorem len0 : sk0.T.length = 10 := by kernel_rfl
theorem len1 : sk1.T.length = 10 := by kernel_rfl
theorem len2 : sk2.T.length = 10 := by kernel_rfl
theorem len4 : sk4.T.length = 10 := by kernel_rfl
theorem len5 : sk5.T.length = 10 := by kernel_rfl
theorem len7 : sk7.T.length = 10 := by kernel_rfl
theorem len8 : sk8.T.length = 10 := by kernel_rfl
theorem trn0 : sk0.turns = 0 := by kernel_rfl
theorem trn1 : sk1.turns = 1 := by kernel_rfl
theorem trn2 : sk2.turns = 2 := by kernel_rfl
theorem trn3 : sk3.turns = 3 := by kernel_rfl
theorem trn5 : sk5.turns = 3 := by kernel_rfl
theorem trn6 : sk6.turns = 4 := by kernel_rfl
theorem trn7 : sk7.turns = 4 := by kernel_rfl
theorem trn8 : sk8.turns = 4 := by kernel_rfl
theorem dwn4 : sk4.down = false := by kernel_rfl
theorem dwn7 : sk7.down = true := by kernel_rfl
theorem dwn8 : sk8.down = false := by kernel_rfl
theorem afl3 : sk3.A.map (·.1) = [2, 3, 2] := by kernel_rfl
theorem afl3l : sk3.A.length = 3 := by kernel_rfl

set_option maxRecDepth 100000 in
set_option maxHeartbeats 6400000 in
theorem known_law (w : World) : Calls Try.prog 3 #[] w fun e w' => e = .returned (.bool true) ∧ Below w.heap.size w w' := by
  have hn := hnot
  go_enter Try.func3, Try.ntmps3
  go_wp2_with fail
  refine (known_any _).mono ?_
  rintro e w1 ⟨rfl, O1⟩
  have HO1 := Lib.hid O1
  clear O1
  go_wp2_with fail
  refine (new_no 9 (by omega) w1).mono ?_
  rintro e w' ⟨rfl, rfl⟩
  go_wp2_with fail
  refine (new_no 4097 (by omega) w1).mono ?_
  rintro e w' ⟨rfl, rfl⟩
  go_wp2_with fail
  refine (new_st (w0 := w) 10 (by omega) (by omega) HO1.out).mono ?_
  rintro e w2 ⟨d, b2, rfl, S2, _⟩
  have HS2 : Hid (St w d b2 sk0 w2) := S2
  clear S2 HO1
  go_wp2_with fail
  refine (known_any _).mono ?_
  rintro e w3 ⟨rfl, O3⟩
  have HS3 := Lib.hid (HS2.out.step O3)
  clear O3 HS2
  go_wp2_with fail
  refine (all_any 1 w3).mono ?_
  rintro e w4 ⟨rfl, K4, O4⟩
  have HS4 := Lib.hid (HS3.out.step O4)
  clear K4 O4 HS3
  generalize w3.heap.size = g3 at *
  go_wp2_with fail
  refine (lay_arg d 10 b2 sk0 _ w4 _ 96 96 HS4.out.dr.at_ (by rw [len0]; omega)).mono ?_
  rintro e w' ⟨rfl, rfl⟩
  go_wp2_with fail
  refine (all_any 1 w4).mono ?_
  rintro e w5 ⟨rfl, K5, O5⟩
  have HS5 := Lib.hid (HS4.out.step O5)
  clear K5 O5 HS4
  generalize w4.heap.size = g4 at *
  go_wp2_with fail
  refine (lay_len d 1 b2 sk0 _ w5 _ 95 95 HS5.out.dr.at_ (by rw [len0]; omega) (by omega)).mono ?_
  rintro e w' ⟨rfl, rfl⟩
  go_wp2_with fail
  refine (all_any 2 w5).mono ?_
  rintro e w6 ⟨rfl, K6, O6⟩
  have HS6 := Lib.hid (HS5.out.step O6)
  have HK6 := Lib.hid K6
  clear K6 O6 HS5
  generalize w5.heap.size = g5 at *
  go_wp2_with fail
  refine (lay_st HS6.out (by rw [trn0]; omega) 2 g5 _ (by rw [len0]; omega) (same_trk (byteOf_lt 2)) HK6.out 96).mono ?_
  rintro e w7 ⟨rfl, ⟨b7, S7⟩, _, _⟩
  rw [err0]
  have HS7 : Hid (St w d b7 sk1 w7) := S7
  clear S7 HS6 HK6
  go_wp2_with fail
  refine (all_any 3 w7).mono ?_
  rintro e w8 ⟨rfl, K8, O8⟩
  have HS8 := Lib.hid (HS7.out.step O8)
  have HK8 := Lib.hid K8
  clear K8 O8 HS7
  generalize w7.heap.size = g7 at *
  go_wp2_with fail
  refine (lay_st HS8.out (by rw [trn1]; omega) 3 g7 _ (by rw [len1]; omega) (same_trk (byteOf_lt 3)) HK8.out 96).mono ?_
  rintro e w9 ⟨rfl, ⟨b9, S9⟩, _, _⟩
  rw [err1]
  have HS9 : Hid (St w d b9 sk2 w9) := S9
  clear S9 HS8 HK8
  go_wp2_with fail
  refine (all_any 4 w9).mono ?_
  rintro e w10 ⟨rfl, K10, O10⟩
  have HS10 := Lib.hid (HS9.out.step O10)
  have HK10 := Lib.hid K10
  clear K10 O10 HS9
  generalize w9.heap.size = g9 at *
  go_wp2_with fail
  refine (lay_st HS10.out (by rw [trn2]; omega) 2 g9 _ (by rw [len2]; omega) (same_trk (byteOf_lt 4)) HK10.out 96).mono ?_
  rintro e w11 ⟨rfl, ⟨b11, S11⟩, _, _⟩
  rw [err2]
  have HS11 : Hid (St w d b11 sk3 w11) := S11
  clear S11 HS10 HK10
  go_wp2_with fail
  refine (afloat_any d b11 sk3 _ w11 HS11.out.dr.at_ HS11.out.dr.ok (by rw [trn3]; omega)).mono ?_
  rintro e w12 ⟨rfl, U12, O12⟩
  rw [afl3] at U12
  rw [afl3l]
  have HU12 := Lib.hid U12
  have HS12 := Lib.hid (HS11.out.step O12)
  clear U12 O12 HS11
  generalize w11.heap.size = gu at *
  go_wp2_with fail
  have HA13 : Hid (Old w12 (w12.alloc (.cells #[.int .i64 0, .int .i64 9, .int .i64 (-1)] 3))) := (Touch.refl _ _).alloc _
  have HI13 : Hid (HasI (w12.alloc (.cells #[.int .i64 0, .int .i64 9, .int .i64 (-1)] 3)) (some ⟨w12.heap.size, 0, none⟩) [0, 9, -1]) := ⟨fun i hi => ⟨_, 0, rfl, by
    rw [Nat.zero_add, World.cell_new]
    match i, hi with
    | 0, _ => rfl
    | 1, _ => rfl
    | 2, _ => rfl⟩⟩
  refine (fall_st (HS12.out.step HA13.out) (by rw [trn3]; omega) _ [0, 9, -1] 3 3 2 50 HI13.out rfl (by omega)).mono ?_
  rintro e w14 ⟨rfl, ⟨b14, S14⟩, KP14, _⟩
  have HS14 : Hid (St w d b14 sk4 w14) := S14
  have HU14 := Lib.hid (KP14.ints ((Kept.of_old HA13.out).ints HU12.out))
  clear S14 KP14 HU12 HS12 HA13 HI13
  go_wp2_with fail
  refine (look_st HS14.out 2 (by rw [len4]; omega) dwn4).mono ?_
  rintro e w15 ⟨g15, rfl, _, K15, O15⟩
  have HK15 : Hid (Blk w15 g15 5 (cells two4)) := K15
  have HS15 := Lib.hid (HS14.out.step O15)
  have HU15 := Lib.hid ((Kept.of_old O15).ints HU14.out)
  clear K15 O15 HS14 HU14
  go_wp2_with fail
  refine (look_st HS15.out 3 (by rw [len4]; omega) dwn4).mono ?_
  rintro e w16 ⟨g16, rfl, _, K16, O16⟩
  have HK16 : Hid (Blk w16 g16 5 (cells three4)) := K16
  have HS16 := Lib.hid (HS15.out.step O16)
  have HU16 := Lib.hid ((Kept.of_old O16).ints HU15.out)
  have HK15 := Lib.hid ((Kept.of_old O16).bytes HK15.out)
  clear K16 O16 HS15 HU15
  go_wp2_with fail
  refine (break_st HS16.out 1 (by omega)).mono ?_
  rintro e w17 ⟨rfl, ⟨b17, S17⟩, KP17, _⟩
  have HS17 : Hid (St w d b17 sk5 w17) := S17
  have HU17 := Lib.hid (KP17.ints HU16.out)
  have HK15 := Lib.hid (KP17.bytes HK15.out)
  have HK16 := Lib.hid (KP17.bytes HK16.out)
  clear S17 KP17 HS16 HU16
  go_wp2_with fail
  refine (all_any 5 w17).mono ?_
  rintro e w18 ⟨rfl, K18, O18⟩
  have HS18 := Lib.hid (HS17.out.step O18)
  have HK18 := Lib.hid K18
  have HU18 := Lib.hid ((Kept.of_old O18).ints HU17.out)
  have HK15 := Lib.hid ((Kept.of_old O18).bytes HK15.out)
  have HK16 := Lib.hid ((Kept.of_old O18).bytes HK16.out)
  clear K18 O18 HS17 HU17
  generalize w17.heap.size = g17 at *
  go_wp2_with fail
  refine (lay_st HS18.out (by rw [trn5]; omega) 4 g17 _ (by rw [len5]; omega) (same_trk (byteOf_lt 5)) HK18.out 96).mono ?_
  rintro e w19 ⟨rfl, ⟨b19, S19⟩, KP19, _⟩
  rw [err5]
  have HS19 : Hid (St w d b19 sk6 w19) := S19
  have HU19 := Lib.hid (KP19.ints HU18.out)
  have HK15 := Lib.hid (KP19.bytes HK15.out)
  have HK16 := Lib.hid (KP19.bytes HK16.out)
  clear S19 HS18 HK18 KP19 HU18
  go_wp2_with fail
  refine (settle_st HS19.out (by rw [trn6]; omega)).mono ?_
  rintro e w20 ⟨rfl, ⟨b20, S20⟩, KP20, _⟩
  rw [err6]
  have HS20 : Hid (St w d b20 sk7 w20) := S20
  have HU20 := Lib.hid (KP20.ints HU19.out)
  have HK15 := Lib.hid (KP20.bytes HK15.out)
  have HK16 := Lib.hid (KP20.bytes HK16.out)
  clear S20 HS19 KP20 HU19
  go_wp2_with fail
  refine (look_down d 4 b20 sk7 _ w20 HS20.out.dr.at_ (by rw [len7]; omega) dwn7).mono ?_
  rintro e w' ⟨rfl, rfl⟩
  go_wp2_with fail
  refine (look_arg d (-1) b20 sk7 _ w20 HS20.out.dr.at_ (by omega)).mono ?_
  rintro e w' ⟨rfl, rfl⟩
  go_wp2_with fail
  refine (broken_any d b20 sk7 _ w20 HS20.out.dr.at_).mono ?_
  rintro e w' ⟨rfl, rfl⟩
  rw [dwn7]
  go_wp2_with fail
  refine (fall_st HS20.out (by rw [trn7]; omega) none [] 0 0 0 1000 (HasI.nil _ _) rfl (by omega)).mono ?_
  rintro e w21 ⟨rfl, ⟨b21, S21⟩, KP21, _⟩
  have HS21 : Hid (St w d b21 sk8 w21) := S21
  have HU21 := Lib.hid (KP21.ints HU20.out)
  have HK15 := Lib.hid (KP21.bytes HK15.out)
  have HK16 := Lib.hid (KP21.bytes HK16.out)
  clear S21 HS20 KP21 HU20
  go_wp2_with fail
  refine (look_st HS21.out 4 (by rw [len8]; omega) dwn8).mono ?_
  rintro e w22 ⟨g22, rfl, _, K22, O22⟩
  have HK22 : Hid (Blk w22 g22 5 (cells four8)) := K22
  have HS22 := Lib.hid (HS21.out.step O22)
  have HU22 := Lib.hid ((Kept.of_old O22).ints HU21.out)
  have HK15 := Lib.hid ((Kept.of_old O22).bytes HK15.out)
  have HK16 := Lib.hid ((Kept.of_old O22).bytes HK16.out)
  clear K22 O22 HS21 HU21
  go_wp2_with fail
  have HA23 : Hid (Old w22 (w22.alloc (.cells #[.int .i64 2, .int .i64 3, .int .i64 2] 3))) := (Touch.refl _ _).alloc _
  have HJ23 : Hid (HasI (w22.alloc (.cells #[.int .i64 2, .int .i64 3, .int .i64 2] 3)) (some ⟨w22.heap.size, 0, none⟩) [2, 3, 2]) := blk_ints (xs := [2, 3, 2]) (Blk.new w22 3 (ints [2, 3, 2]))
  have HU23 : Hid (HasI (w22.alloc (.cells #[.int .i64 2, .int .i64 3, .int .i64 2] 3)) (some ⟨gu, 0, none⟩) [2, 3, 2]) := (blk_ints (xs := [2, 3, 2]) HU22.out).old HA23.out
  refine (same_ints _ _ [2, 3, 2] 3 3 3 _ HU23.out HJ23.out rfl (by omega)).mono ?_
  rintro e w24 ⟨rfl, O24'⟩
  have O24 := HA23.out.trans O24'
  have HS24 := Lib.hid (HS22.out.step O24)
  have K15 := (Kept.of_old O24).bytes HK15.out
  have K16 := (Kept.of_old O24).bytes HK16.out
  have K22 := (Kept.of_old O24).bytes HK22.out
  have c1 : w24.cell? ⟨g15, 0, none⟩ = some (.int .u8 4) := by rw [K15.cell, cells_get _ _ (by rw [two_len]; omega), two_0]; rfl
  have c2 : w24.cell? ⟨g15, 49, none⟩ = some (.int .u8 4) := by rw [K15.cell, cells_get _ _ (by rw [two_len]; omega), two_49]; rfl
  have c3 : w24.cell? ⟨g15, 50, none⟩ = some (.int .u8 2) := by rw [K15.cell, cells_get _ _ (by rw [two_len]; omega), two_50]; rfl
  have c4 : w24.cell? ⟨g16, 0, none⟩ = some (.int .u8 0) := by rw [K16.cell, cells_get _ _ (by rw [three_len]; omega), three_0]; rfl
  have c5 : w24.cell? ⟨g22, 95, none⟩ = some (.int .u8 5) := by rw [K22.cell, cells_get _ _ (by rw [four_len]; omega), four_95]; rfl
  clear K15 K16 K22 O24 O24' HS22 HU22 HK22 HA23 HJ23 HU23 HK15 HK16
  go_wp2_with fail
  refine (broken_any d b21 sk8 _ w24 HS24.out.dr.at_).mono ?_
  rintro e w' ⟨rfl, rfl⟩
  rw [dwn8]
  go_wp2_with fail
  refine (turns_any d b21 sk8 _ w24 HS24.out.dr.at_).mono ?_
  rintro e w' ⟨rfl, rfl⟩
  rw [trn8]
  go_wp2_with fail
  refine (tracks_any d b21 sk8 _ w24 HS24.out.dr.at_).mono ?_
  rintro e w' ⟨rfl, rfl⟩
  rw [len8]
  clear c1 c2 c3 c4 c5
  go_wp2_with fail
  refine (settle_st HS24.out (by rw [trn8]; omega)).mono ?_
  rintro e w25 ⟨rfl, ⟨b25, S25⟩, _, _⟩
  rw [err8]
  have HO := Lib.hid S25.old
  clear S25 HS24
  go_wp2_with fail
  go_ret
  exact ⟨rfl, HO.out.below (Nat.le_refl _) (fun _ _ h => h)⟩
end Go.Proofs.Ythbkhhcijekplaa
