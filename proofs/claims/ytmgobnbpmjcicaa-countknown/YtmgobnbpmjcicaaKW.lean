/- The walk of lariatlaw2.CountKnown. -/
import Derived.Test.YtmgobnbpmjcicaaObjs
namespace Go.Proofs.Ytmgobnbpmjcicaa
open Go.RowKit Go.MuLone

theorem eq1 : can most (-1) = false := decide_eq_false (by omega)
theorem eq2 : taken most (-1) = most := if_neg (by omega)
theorem eq3 : can most 2305843009213693952 = true := decide_eq_true (by unfold most; omega)
theorem eq4 : taken most 2305843009213693952 = 2305843009213693952 := by unfold taken most; rw [if_pos (by omega)]; omega
theorem eq5 : up 2305843009213693952 4611686018427387904 most = most := by unfold up most; omega
theorem eq6 : up most (-1) most = most := by unfold up most; omega

set_option maxRecDepth 100000 in
set_option maxHeartbeats 1600000 in
theorem known_law (w : World) : Calls Try.prog 3 #[] w fun e w' => e = .returned (.bool true) ∧ Below w.heap.size w w' := by
  have hn := hnot
  go_enter Try.func3, Try.ntmps3
  go_wp2_with fail
  refine (known_any _).mono ?_
  rintro e w1 ⟨rfl, T1⟩
  have HT1 := Lib.hid T1
  clear T1
  go_wp2_with fail
  refine (new_budget (-5) _).mono ?_
  rintro e w2 ⟨rfl, K2, T2⟩
  simp only [World.size_alloc] at K2 ⊢
  have S2 : Hid (Objs w1.heap.size (w1.heap.size + 1) (w1.heap.size + 2) (w1.heap.size + 3) 0 0 0 0 false w w2) := objs_begin w w1 w2 (-5) HT1.out K2 T2
  have hs2 := K2.lt
  have HB := Lib.hid HT1.out.size
  clear K2 T2 HT1
  generalize w1.heap.size = n at *
  go_wp2_with fail
  refine (new_budget 9223372036854775807 _).mono ?_
  rintro e w3 ⟨rfl, K3, T3⟩
  have S3 := Lib.hid (S2.out.same T3)
  have G3 : Hid (Num w2.heap.size most (some (.int .i64 most)) w3) := K3
  clear K3 T3 S2
  generalize w2.heap.size = g at *
  have Hg := Lib.hid hs2
  clear hs2
  go_wp2_with fail
  refine (known_any _).mono ?_
  rintro e w4 ⟨rfl, T4⟩
  have S4 := Lib.hid (S3.out.same T4)
  have G4 := Lib.hid (G3.out.touch T4 (fun h => h))
  clear T4 S3 G3
  go_wp2_with fail
  refine (S4.out.add 5).mono ?_
  rintro e w5 ⟨he, S, T⟩
  obtain rfl : e = .returned (.int .i64 5) := he
  have S5 : Hid (Objs n (n + 1) (n + 2) (n + 3) 5 0 0 0 false w w5) := S
  have G5 := Lib.hid (G4.out.touch T (by have := Hg.out; omega))
  clear S T S4 G4
  go_wp2_with fail
  refine (S5.out.add (-3)).mono ?_
  rintro e w6 ⟨he, S, T⟩
  obtain rfl : e = .returned (.int .i64 5) := he
  have S6 : Hid (Objs n (n + 1) (n + 2) (n + 3) 5 0 0 0 false w w6) := S
  have G6 := Lib.hid (G5.out.touch T (by have := Hg.out; omega))
  clear S T S5 G5
  go_wp2_with fail
  refine (S6.out.add 9223372036854775807).mono ?_
  rintro e w7 ⟨he, S, T⟩
  obtain rfl : e = .returned (.int .i64 4611686018427387904) := he
  have S7 : Hid (Objs n (n + 1) (n + 2) (n + 3) 4611686018427387904 0 0 0 false w w7) := S
  have G7 := Lib.hid (G6.out.touch T (by have := Hg.out; omega))
  clear S T S6 G6
  go_wp2_with fail
  refine (S7.out.add 1).mono ?_
  rintro e w8 ⟨he, S, T⟩
  obtain rfl : e = .returned (.int .i64 4611686018427387904) := he
  have S8 : Hid (Objs n (n + 1) (n + 2) (n + 3) 4611686018427387904 0 0 0 false w w8) := S
  have G8 := Lib.hid (G7.out.touch T (by have := Hg.out; omega))
  clear S T S7 G7
  go_wp2_with fail
  refine (S8.out.note (-2)).mono ?_
  rintro e w9 ⟨he, S, T⟩
  obtain rfl : e = .returned (.bool false) := he
  have S9 : Hid (Objs n (n + 1) (n + 2) (n + 3) 4611686018427387904 0 0 0 false w w9) := S
  have G9 := Lib.hid (G8.out.touch T (by have := Hg.out; omega))
  clear S T S8 G8
  go_wp2_with fail
  refine (S9.out.note 4).mono ?_
  rintro e w10 ⟨he, S, T⟩
  obtain rfl : e = .returned (.bool true) := he
  have S10 : Hid (Objs n (n + 1) (n + 2) (n + 3) 4611686018427387904 4 0 0 false w w10) := S
  have G10 := Lib.hid (G9.out.touch T (by have := Hg.out; omega))
  clear S T S9 G9
  go_wp2_with fail
  refine (S10.out.note 4).mono ?_
  rintro e w11 ⟨he, S, T⟩
  obtain rfl : e = .returned (.bool false) := he
  have S11 : Hid (Objs n (n + 1) (n + 2) (n + 3) 4611686018427387904 4 0 0 false w w11) := S
  have G11 := Lib.hid (G10.out.touch T (by have := Hg.out; omega))
  clear S T S10 G10
  go_wp2_with fail
  refine (S11.out.note 3).mono ?_
  rintro e w12 ⟨he, S, T⟩
  obtain rfl : e = .returned (.bool false) := he
  have S12 : Hid (Objs n (n + 1) (n + 2) (n + 3) 4611686018427387904 4 0 0 false w w12) := S
  have G12 := Lib.hid (G11.out.touch T (by have := Hg.out; omega))
  clear S T S11 G11
  go_wp2_with fail
  refine (S12.out.raise).mono ?_
  rintro e w13 ⟨he, S, T⟩
  obtain rfl : e = .returned (.bool true) := he
  have S13 : Hid (Objs n (n + 1) (n + 2) (n + 3) 4611686018427387904 4 0 0 true w w13) := S
  have G13 := Lib.hid (G12.out.touch T (by have := Hg.out; omega))
  clear S T S12 G12
  go_wp2_with fail
  refine (S13.out.raise).mono ?_
  rintro e w14 ⟨he, S, T⟩
  obtain rfl : e = .returned (.bool false) := he
  have S14 : Hid (Objs n (n + 1) (n + 2) (n + 3) 4611686018427387904 4 0 0 true w w14) := S
  have G14 := Lib.hid (G13.out.touch T (by have := Hg.out; omega))
  clear S T S13 G13
  go_wp2_with fail
  refine (S14.out.take 1).mono ?_
  rintro e w15 ⟨he, S, T⟩
  obtain rfl : e = .returned (.bool false) := he
  have S15 : Hid (Objs n (n + 1) (n + 2) (n + 3) 4611686018427387904 4 0 0 true w w15) := S
  have G15 := Lib.hid (G14.out.touch T (by have := Hg.out; omega))
  clear S T S14 G14
  go_wp2_with fail
  refine (S15.out.take 0).mono ?_
  rintro e w16 ⟨he, S, T⟩
  obtain rfl : e = .returned (.bool true) := he
  have S16 : Hid (Objs n (n + 1) (n + 2) (n + 3) 4611686018427387904 4 0 0 true w w16) := S
  have G16 := Lib.hid (G15.out.touch T (by have := Hg.out; omega))
  clear S T S15 G15
  go_wp2_with fail
  refine (take_any g most (-1) _ (by decide) (by decide) _ G16.out).mono ?_
  rintro e w17 ⟨he, K, T⟩
  rw [eq1] at he
  rw [eq2] at K
  obtain rfl : e = .returned (.bool false) := he
  have G17 : Hid (Num g most (some (.int .i64 most)) w17) := K
  have S17 := Lib.hid (S16.out.other T (by have := Hg.out; omega) (by have := HB.out; have := Hg.out; omega))
  clear K T S16 G16
  go_wp2_with fail
  refine (S17.out.give 9).mono ?_
  rintro e w18 ⟨he, S, T⟩
  obtain rfl : e = .returned (.tuple #[]) := he
  have S18 : Hid (Objs n (n + 1) (n + 2) (n + 3) 4611686018427387904 4 0 0 true w w18) := S
  have G18 := Lib.hid (G17.out.touch T (by have := Hg.out; omega))
  clear S T S17 G17
  go_wp2_with fail
  refine (take_any g most 2305843009213693952 _ (by decide) (by decide) _ G18.out).mono ?_
  rintro e w19 ⟨he, K, T⟩
  rw [eq3] at he
  rw [eq4] at K
  obtain rfl : e = .returned (.bool true) := he
  have G19 : Hid (Num g 2305843009213693952 (some (.int .i64 most)) w19) := K
  have S19 := Lib.hid (S18.out.other T (by have := Hg.out; omega) (by have := HB.out; have := Hg.out; omega))
  clear K T S18 G18
  go_wp2_with fail
  refine (give_any g 2305843009213693952 4611686018427387904 most (by decide) (by decide) (by decide) _ G19.out).mono ?_
  rintro e w20 ⟨he, K, T⟩
  rw [eq5] at K
  obtain rfl : e = .returned (.tuple #[]) := he
  have G20 : Hid (Num g most (some (.int .i64 most)) w20) := K
  have S20 := Lib.hid (S19.out.other T (by have := Hg.out; omega) (by have := HB.out; have := Hg.out; omega))
  clear K T S19 G19
  go_wp2_with fail
  refine (give_any g most (-1) most (by decide) (by decide) (by decide) _ G20.out).mono ?_
  rintro e w21 ⟨he, K, T⟩
  rw [eq6] at K
  obtain rfl : e = .returned (.tuple #[]) := he
  have G21 : Hid (Num g most (some (.int .i64 most)) w21) := K
  have S21 := Lib.hid (S20.out.other T (by have := Hg.out; omega) (by have := HB.out; have := Hg.out; omega))
  clear K T S20 G20
  go_wp2_with fail
  refine (counter_load _ _ _ _ S21.out.kc).mono ?_
  rintro e w' ⟨rfl, rfl⟩
  go_wp2_with fail
  refine (peak_load _ _ _ _ S21.out.kp).mono ?_
  rintro e w' ⟨rfl, rfl⟩
  go_wp2_with fail
  refine (flag_raised _ _ _ S21.out.kf).mono ?_
  rintro e w' ⟨rfl, rfl⟩
  go_wp2_with fail
  refine (budget_left _ _ _ _ S21.out.kb).mono ?_
  rintro e w' ⟨rfl, rfl⟩
  go_wp2_with fail
  refine (budget_left _ _ _ _ G21.out).mono ?_
  rintro e w' ⟨rfl, rfl⟩
  go_wp2_with fail
  go_ret
  exact ⟨rfl, S21.out.old.below (Nat.le_refl _) (fun _ _ h => h)⟩
end Go.Proofs.Ytmgobnbpmjcicaa
