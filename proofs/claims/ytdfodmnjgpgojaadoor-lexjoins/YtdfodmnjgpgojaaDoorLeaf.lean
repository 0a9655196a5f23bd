/- The contracts of lex's predicates of bytes, and of the reference's. -/
import Derived.Test.YtdfodmnjgpgojaaDoorLb2
namespace Go.Proofs.YtdfodmnjgpgojaaDoor
open Go.RowKit Go.PlainAid
set_option maxRecDepth 100000

set_option maxHeartbeats 1600000 in
theorem isBlank_any (c : Int) (w : World) : Calls Tryd.prog 14 #[.int .u8 c] w fun e w' => e = .returned (.bool (blankB c)) ∧ w' = w := by
  go_enter Tryd.func14, Tryd.ntmps14
  go_wp2
  all_goals (go_ret; refine ⟨congrArg (fun b => Ending.returned (.bool b)) (Bool.eq_iff_iff.2 ?_), rfl⟩; simp [blankB] <;> omega)

set_option maxHeartbeats 1600000 in
theorem isDigit_any (c : Int) (w : World) : Calls Tryd.prog 24 #[.int .u8 c] w fun e w' => e = .returned (.bool (digitB c)) ∧ w' = w := by
  go_enter Tryd.func24, Tryd.ntmps24
  go_wp2
  all_goals (go_ret; refine ⟨congrArg (fun b => Ending.returned (.bool b)) (Bool.eq_iff_iff.2 ?_), rfl⟩; simp [digitB] <;> omega)

set_option maxHeartbeats 1600000 in
theorem beginsWord_any (c : Int) (w : World) : Calls Tryd.prog 27 #[.int .u8 c] w fun e w' => e = .returned (.bool (lowerB c)) ∧ w' = w := by
  go_enter Tryd.func27, Tryd.ntmps27
  go_wp2
  all_goals (go_ret; refine ⟨congrArg (fun b => Ending.returned (.bool b)) (Bool.eq_iff_iff.2 ?_), rfl⟩; simp [lowerB] <;> omega)

set_option maxHeartbeats 1600000 in
theorem isOfWord_any (c : Int) (w : World) : Calls Tryd.prog 28 #[.int .u8 c] w fun e w' => e = .returned (.bool (wordB c)) ∧ w' = w := by
  go_enter Tryd.func28, Tryd.ntmps28
  go_wp2
  all_goals (go_ret; refine ⟨congrArg (fun b => Ending.returned (.bool b)) (Bool.eq_iff_iff.2 ?_), rfl⟩; simp [wordB] <;> omega)

set_option maxHeartbeats 1600000 in
theorem isLetter_any (c : Int) (w : World) : Calls Tryd.prog 29 #[.int .u8 c] w fun e w' => e = .returned (.bool (letterB c)) ∧ w' = w := by
  go_enter Tryd.func29, Tryd.ntmps29
  go_wp2
  all_goals (go_ret; refine ⟨congrArg (fun b => Ending.returned (.bool b)) (Bool.eq_iff_iff.2 ?_), rfl⟩; simp_all [letterB] <;> omega)

set_option maxHeartbeats 1600000 in
theorem refDigit_any (c : Int) (w : World) : Calls Tryd.prog 21 #[.int .u8 c] w fun e w' => e = .returned (.bool (digitB c)) ∧ w' = w := by
  go_enter Tryd.func21, Tryd.ntmps21
  go_wp2
  all_goals (go_ret; refine ⟨congrArg (fun b => Ending.returned (.bool b)) (Bool.eq_iff_iff.2 ?_), rfl⟩; simp [digitB] <;> omega)

set_option maxHeartbeats 1600000 in
theorem refLower_any (c : Int) (w : World) : Calls Tryd.prog 22 #[.int .u8 c] w fun e w' => e = .returned (.bool (lowerB c)) ∧ w' = w := by
  go_enter Tryd.func22, Tryd.ntmps22
  go_wp2
  all_goals (go_ret; refine ⟨congrArg (fun b => Ending.returned (.bool b)) (Bool.eq_iff_iff.2 ?_), rfl⟩; simp [lowerB] <;> omega)

theorem atMost_any (m k n : Nat) (w : World) : Calls Tryd.prog 25 #[.int .i64 m, .int .i64 k, .int .i64 n] w fun e w' => e = .returned (.tuple #[.int .i64 (if n > m then 0 else k : Nat), .int .i64 (if n > m then 0 else n : Nat)]) ∧ w' = w := by
  by_cases h : n > m
  · have h' : (m : Int) < (n : Int) := by omega
    rw [if_pos h, if_pos h]
    go_enter Tryd.func25, Tryd.ntmps25
    go_wp2
    go_ret2
    exact ⟨rfl, rfl⟩
  · have h' : ¬ (m : Int) < (n : Int) := by omega
    rw [if_neg h, if_neg h]
    go_enter Tryd.func25, Tryd.ntmps25
    go_wp2
    go_ret2
    exact ⟨rfl, rfl⟩

set_option maxHeartbeats 1600000 in
theorem run_digit (s : ByteArray) (hs : s.size ≤ maxLen) (w : World) : Calls Tryd.prog 26 #[.string s, .func (.func 24) #[] #[]] w fun e w' => e = .returned (.int .i64 (runN digitB s : Int)) ∧ w' = w := by
  have hb := get_bt s
  have hm : maxLen = 9223372036854775807 := by decide
  obtain ⟨m, hm'⟩ : ∃ m, s.size = m := ⟨_, rfl⟩
  go_enter Tryd.func26, Tryd.ntmps26
  go_wp2_with fail
  go_loopw [5] (fun v wx => ∃ n : Nat, v = .int .i64 (n : Int) ∧ n ≤ m ∧ Hid (∀ k, k < n → digitB (bt s k) = true) ∧ wx = w) (fun v _ => m - (intOf v).toNat)
  case atStart => exact ⟨0, rfl, Nat.zero_le _, fun k hk => by omega, rfl⟩
  case round =>
    obtain ⟨n, rfl, hn, HA, rfl⟩ := hrel
    by_cases q : n < m
    · have q' : (n : Int) < (m : Int) := by omega
      cases hp : digitB (bt s n) with
      | true =>
        go_wp2_with ((refine (isDigit_any _ _).mono ?_); rintro e w' ⟨rfl, rfl⟩)
        refine ⟨⟨n + 1, by rw [Int.natCast_add]; rfl, by omega, fun k hk => ?_, trivial⟩, by simp only [intOf]; omega⟩
        rcases Nat.lt_or_ge k n with c | c
        · exact HA.out k c
        · obtain rfl : k = n := by omega
          exact hp
      | false =>
        go_wp2_with ((refine (isDigit_any _ _).mono ?_); rintro e w' ⟨rfl, rfl⟩)
        go_ret
        refine ⟨?_, rfl⟩
        rw [runN_eq ⟨by omega, HA.out, fun _ => hp⟩]
        rfl
    · have q' : ¬ (n : Int) < (m : Int) := by omega
      go_wp2_with fail
      go_ret
      refine ⟨?_, rfl⟩
      rw [runN_eq ⟨by omega, HA.out, fun c => by omega⟩]
      rfl
set_option maxHeartbeats 1600000 in
theorem run_word (s : ByteArray) (hs : s.size ≤ maxLen) (w : World) : Calls Tryd.prog 26 #[.string s, .func (.func 28) #[] #[]] w fun e w' => e = .returned (.int .i64 (runN wordB s : Int)) ∧ w' = w := by
  have hb := get_bt s
  have hm : maxLen = 9223372036854775807 := by decide
  obtain ⟨m, hm'⟩ : ∃ m, s.size = m := ⟨_, rfl⟩
  go_enter Tryd.func26, Tryd.ntmps26
  go_wp2_with fail
  go_loopw [5] (fun v wx => ∃ n : Nat, v = .int .i64 (n : Int) ∧ n ≤ m ∧ Hid (∀ k, k < n → wordB (bt s k) = true) ∧ wx = w) (fun v _ => m - (intOf v).toNat)
  case atStart => exact ⟨0, rfl, Nat.zero_le _, fun k hk => by omega, rfl⟩
  case round =>
    obtain ⟨n, rfl, hn, HA, rfl⟩ := hrel
    by_cases q : n < m
    · have q' : (n : Int) < (m : Int) := by omega
      cases hp : wordB (bt s n) with
      | true =>
        go_wp2_with ((refine (isOfWord_any _ _).mono ?_); rintro e w' ⟨rfl, rfl⟩)
        refine ⟨⟨n + 1, by rw [Int.natCast_add]; rfl, by omega, fun k hk => ?_, trivial⟩, by simp only [intOf]; omega⟩
        rcases Nat.lt_or_ge k n with c | c
        · exact HA.out k c
        · obtain rfl : k = n := by omega
          exact hp
      | false =>
        go_wp2_with ((refine (isOfWord_any _ _).mono ?_); rintro e w' ⟨rfl, rfl⟩)
        go_ret
        refine ⟨?_, rfl⟩
        rw [runN_eq ⟨by omega, HA.out, fun _ => hp⟩]
        rfl
    · have q' : ¬ (n : Int) < (m : Int) := by omega
      go_wp2_with fail
      go_ret
      refine ⟨?_, rfl⟩
      rw [runN_eq ⟨by omega, HA.out, fun c => by omega⟩]
      rfl
end Go.Proofs.YtdfodmnjgpgojaaDoor
