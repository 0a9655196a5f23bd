/- The walk of lariatlaw5.LedgerLeaves. -/
import Derived.Test.YtmingbgohdhajaaKnown
namespace Go.Proofs.Ytmingbgohdhajaa
open Go.RowKit
set_option maxRecDepth 100000

theorem pick_big (n m : Int) (hm0 : 0 < m) (hm1 : m ≤ 5000) (w : World) : Calls Try.prog 32 #[.int .i64 n, .int .i64 m] w fun e w' => ∃ k : Nat, (k : Int) < m ∧ e = .returned (.int .i64 k) ∧ w = w' := by
  have h1 : n.tmod m < m := Int.tmod_lt_of_pos n hm0
  have h2 : -m < n.tmod m := by
    have := Int.tmod_lt_of_pos (-n) hm0
    rw [Int.neg_tmod] at this
    omega
  have hz : ¬ m = 0 := by omega
  by_cases hneg : n.tmod m < 0
  · go_enter Try.func32, Try.ntmps32
    go_wp2
    go_ret
    exact ⟨(n.tmod m + m).toNat, by omega, by rw [Int.toNat_of_nonneg (by omega)]; rfl, rfl⟩
  · go_enter Try.func32, Try.ntmps32
    go_wp2
    go_ret
    exact ⟨(n.tmod m).toNat, by omega, by rw [Int.toNat_of_nonneg (by omega)]; rfl, rfl⟩

theorem leavesOf_mono {n m : Nat} (h : n ≤ m) : leavesOf n ≤ leavesOf m := by
  unfold leavesOf
  split
  · exact Nat.zero_le _
  · rw [if_neg (by omega)]; omega

set_option maxHeartbeats 1600000 in
theorem leaves_law (a0 a1 : Int) (w : World) : Calls Try.prog 6 #[.int .i64 a0, .int .i64 a1] w fun e w' => e = .returned (.bool true) ∧ Below w.heap.size w w' := by
  go_enter Try.func6, Try.ntmps6
  go_wp2_with fail
  refine (known_any w).mono ?_
  rintro x w1 ⟨rfl, O1⟩
  have HO1 := Lib.hid O1
  clear O1
  go_wp2_with fail
  refine (pick_big a0 4000 (by omega) (by omega) w1).mono ?_
  rintro x w' ⟨n, hn, rfl, rfl⟩
  go_wp2_with fail
  refine (pick_big a1 4000 (by omega) (by omega) w1).mono ?_
  rintro x w' ⟨m, hm, rfl, rfl⟩
  go_wp2_with fail
  refine (leaves_any n w1 (by omega)).mono ?_
  rintro x w' ⟨rfl, rfl⟩
  go_wp2_with fail
  refine (known_any w1).mono ?_
  rintro x w2 ⟨rfl, O2⟩
  have HO2 := Lib.hid (HO1.out.trans O2)
  have HLm := Lib.hid (leaves_any m w2 (by omega))
  have hmono := fun h : n ≤ m => leavesOf_mono h
  clear O2 HO1
  have hle := leavesOf_le n
  have hlm := leavesOf_le m
  by_cases h0 : n = 0
  · subst h0
    rw [show leavesOf 0 = 0 from rfl] at hmono ⊢
    by_cases hgt : (m : Int) < 0
    · omega
    · go_wp2_with fail
      refine HLm.out.mono ?_
      rintro x w' ⟨rfl, rfl⟩
      have hq : (0 : Int) ≤ ((leavesOf m : Nat) : Int) := by omega
      generalize leavesOf m = lm at *
      go_wp2_with fail
      go_ret
      exact ⟨rfl, HO2.out.below (Nat.le_refl _) (fun _ _ h => h)⟩
  · have h1 := leavesOf_pos (n := n) (by omega)
    have h2 : (leavesOf n - 1) * 64 < 2 + n * 98 := by unfold leavesOf; rw [if_neg h0]; omega
    have hz : ¬ (n : Int) = 0 := by omega
    have hp : 0 < (n : Int) := by omega
    generalize leavesOf n = ln at *
    have j1 : 2 + (n : Int) * 98 ≤ (ln : Int) * 64 := by omega
    have j2 : ((ln : Int) - 1) * 64 < 2 + (n : Int) * 98 := by omega
    by_cases hgt : (m : Int) < (n : Int)
    · go_wp2_with fail
      go_ret
      exact ⟨rfl, HO2.out.below (Nat.le_refl _) (fun _ _ h => h)⟩
    · have j3 := hmono (by omega)
      go_wp2_with fail
      refine HLm.out.mono ?_
      rintro x w' ⟨rfl, rfl⟩
      generalize leavesOf m = lm at *
      have j4 : (ln : Int) ≤ (lm : Int) := by omega
      go_wp2_with fail
      go_ret
      exact ⟨rfl, HO2.out.below (Nat.le_refl _) (fun _ _ h => h)⟩
end Go.Proofs.Ytmingbgohdhajaa
