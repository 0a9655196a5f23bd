/- The walk of lariatlaw6.VaultTakes. -/
import Derived.Test.YtjajenkagcdhlaaJW
namespace Go.Proofs.Ytjajenkagcdhlaa
open Go.RowKit
set_option maxRecDepth 100000

theorem pick70 (n m : Int) (hm0 : 0 < m) (hm1 : m ≤ 100000) (w : World) : Calls Try.prog 21 #[.int .i64 n, .int .i64 m] w fun e w' => ∃ k : Nat, (k : Int) < m ∧ e = .returned (.int .i64 k) ∧ w = w' := by
  have h1 : n.tmod m < m := Int.tmod_lt_of_pos n hm0
  have h2 : -m < n.tmod m := by
    have := Int.tmod_lt_of_pos (-n) hm0
    rw [Int.neg_tmod] at this
    omega
  have hz : ¬ m = 0 := by omega
  by_cases hneg : n.tmod m < 0
  · go_enter Try.func21, Try.ntmps21
    go_wp2
    go_ret
    exact ⟨(n.tmod m + m).toNat, by omega, by rw [Int.toNat_of_nonneg (by omega)]; rfl, rfl⟩
  · go_enter Try.func21, Try.ntmps21
    go_wp2
    go_ret
    exact ⟨(n.tmod m).toNat, by omega, by rw [Int.toNat_of_nonneg (by omega)]; rfl, rfl⟩
set_option maxHeartbeats 3200000 in
theorem takes_law (a0 : Int) (w : World) : Calls Try.prog 4 #[.int .i64 a0] w fun e w' => e = .returned (.bool true) ∧ Below w.heap.size w w' := by
  go_enter Try.func4, Try.ntmps4
  go_wp2_with fail
  refine (known_any w).mono ?_
  rintro x w1 ⟨rfl, O1⟩
  have HO1 := Lib.hid O1
  clear O1
  go_wp2_with fail
  refine (pick70 a0 70000 (by omega) (by omega) w1).mono ?_
  rintro x w' ⟨n, hn, rfl, rfl⟩
  have HKn := Lib.hid (known_any w1)
  by_cases h0 : n = 0
  · subst h0
    have HT : Hid (Calls Try.prog 20 #[.int .i64 0] w1 fun e w' => e = .returned (.int .i64 1) ∧ w1 = w') := takes_any 0 (by omega) w1
    have HT3 : Hid (∀ w, Calls Try.prog 20 #[.int .i64 80] w fun e w' => e = .returned (.int .i64 1) ∧ w = w') := fun w => takes_any 80 (by omega) w
    go_wp2_with (first
      | ((with_reducible refine HT.out.mono ?_); rintro y w' ⟨rfl, rfl⟩)
      | ((with_reducible refine HKn.out.mono ?_); rintro y w2 ⟨rfl, O2⟩
         have HO2 := Lib.hid (HO1.out.trans O2)
         clear O2)
      | ((with_reducible refine (HT3.out _).mono ?_); rintro y w' ⟨rfl, rfl⟩))
    go_ret
    exact ⟨rfl, HO2.out.below (Nat.le_refl _) (fun _ _ q => q)⟩
  · have hk1 : 1 ≤ takesN n ∧ n ≤ takesN n * 80 ∧ (takesN n = 1 ∨ (takesN n - 1) * 80 < n) ∧ takesN n ≤ 1000 ∧ takesN (n + 80) = takesN n + 1 := by
      unfold takesN
      omega
    have HT := Lib.hid (takes_any n (by omega) w1)
    obtain ⟨k, hk⟩ : ∃ k, takesN n = k := ⟨_, rfl⟩
    rw [hk] at HT hk1
    have HT2 : Hid (∀ w, Calls Try.prog 20 #[.int .i64 ((n : Int) + 80)] w fun e w' => e = .returned (.int .i64 ((k : Int) + 1)) ∧ w = w') := fun w => by
      have := takes_any (n + 80) (by omega) w
      rw [hk1.2.2.2.2] at this
      exact this
    have hwA : IntKind.i64.wrap ((n : Int) + 80) = (n : Int) + 80 := wrap_fits ⟨by omega, by omega⟩
    have hwB : IntKind.i64.wrap ((k : Int) * 80) = (k : Int) * 80 := wrap_fits ⟨by omega, by omega⟩
    have hwC : IntKind.i64.wrap ((k : Int) - 1) = (k : Int) - 1 := wrap_fits ⟨by omega, by omega⟩
    have hwD : IntKind.i64.wrap (((k : Int) - 1) * 80) = ((k : Int) - 1) * 80 := wrap_fits ⟨by omega, by omega⟩
    have hwE : IntKind.i64.wrap ((k : Int) + 1) = (k : Int) + 1 := wrap_fits ⟨by omega, by omega⟩
    have hwF : IntKind.i64.wrap (1 - (n : Int)) = 1 - (n : Int) := wrap_fits ⟨by omega, by omega⟩
    have hmx : max 0 (1 - (n : Int)) = 0 := by omega
    have hwG : IntKind.i64.wrap ((k : Int) + 1 - 0) = (k : Int) + 1 := by rw [Int.sub_zero]; exact hwE
    have g1 : (1 : Int) ≤ (k : Int) := by omega
    have g2 : (n : Int) ≤ (k : Int) * 80 := by omega
    obtain ⟨_, _, hkc, hk3, _⟩ := hk1
    clear hk
    by_cases hk1 : k = 1
    · subst hk1
      have HT1 : Hid (Calls Try.prog 20 #[.int .i64 (n : Int)] w1 fun e w' => e = .returned (.int .i64 1) ∧ w1 = w') := HT.out
      have HT3 : Hid (∀ w, Calls Try.prog 20 #[.int .i64 ((n : Int) + 80)] w fun e w' => e = .returned (.int .i64 2) ∧ w = w') := HT2.out
      have g5 : (n : Int) ≤ 80 := by omega
      clear hkc hwB hwC hwD hwE hwG g1 g2 HT HT2
      go_wp2_with (first
        | ((with_reducible refine HT1.out.mono ?_); rintro y w' ⟨rfl, rfl⟩)
        | ((with_reducible refine HKn.out.mono ?_); rintro y w2 ⟨rfl, O2⟩
           have HO2 := Lib.hid (HO1.out.trans O2)
           clear O2)
        | ((with_reducible refine (HT3.out _).mono ?_); rintro y w' ⟨rfl, rfl⟩))
      go_ret
      exact ⟨rfl, HO2.out.below (Nat.le_refl _) (fun _ _ q => q)⟩
    · have g3 : ((k : Int) - 1) * 80 < (n : Int) := by omega
      have g4 : ((k : Int) == 1) = false := by simp only [beq_eq_false_iff_ne]; omega
      clear hkc
      go_wp2_with (first
        | ((with_reducible refine HT.out.mono ?_); rintro y w' ⟨rfl, rfl⟩)
        | ((with_reducible refine HKn.out.mono ?_); rintro y w2 ⟨rfl, O2⟩
           have HO2 := Lib.hid (HO1.out.trans O2)
           clear O2)
        | ((with_reducible refine (HT2.out _).mono ?_); rintro y w' ⟨rfl, rfl⟩))
      go_ret
      exact ⟨rfl, HO2.out.below (Nat.le_refl _) (fun _ _ q => q)⟩
end Go.Proofs.Ytjajenkagcdhlaa
