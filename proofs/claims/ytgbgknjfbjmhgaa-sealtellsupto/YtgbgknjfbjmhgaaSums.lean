/- The contract of seal.Sums. -/
import Derived.Test.YtgbgknjfbjmhgaaLeaf
namespace Go.Proofs.Ytgbgknjfbjmhgaa
open Go.RowKit

/-- What is there of word j. -/
def chunk (xs : List Nat) (j : Nat) : List Nat := (xs.drop (4 * j)).take 4

theorem at0_chunk (xs : List Nat) (j i : Nat) (h : i < 4) : at0 (chunk xs j) i = at0 xs (4 * j + i) := by unfold chunk; rw [at0_take h, at0_drop]
theorem at0_beyond {xs : List Nat} {k : Nat} (h : xs.length ≤ k) : at0 xs k = 0 := by simp [at0, List.getD_eq_getElem?_getD, List.getElem?_eq_none h]

theorem shifted_chunk (xs : List Nat) (j n : Nat) (h : 4 * j < xs.length) (hn : n = min 4 (xs.length - 4 * j)) : shifted (chunk xs j) n = word xs j := by
  have e0 := at0_chunk xs j 0 (by omega)
  have e1 := at0_chunk xs j 1 (by omega)
  have e2 := at0_chunk xs j 2 (by omega)
  have e3 := at0_chunk xs j 3 (by omega)
  have hc : n = 1 ∨ n = 2 ∨ n = 3 ∨ n = 4 := by omega
  unfold shifted word
  rcases hc with rfl | rfl | rfl | rfl
  · have z1 := at0_beyond (xs := xs) (k := 4 * j + 1) (by omega)
    have z2 := at0_beyond (xs := xs) (k := 4 * j + 2) (by omega)
    have z3 := at0_beyond (xs := xs) (k := 4 * j + 3) (by omega)
    simp only [num, e0, z1, z2, z3]; simp
  · have z2 := at0_beyond (xs := xs) (k := 4 * j + 2) (by omega)
    have z3 := at0_beyond (xs := xs) (k := 4 * j + 3) (by omega)
    simp only [num, e0, e1, z2, z3]; simp; omega
  · have z3 := at0_beyond (xs := xs) (k := 4 * j + 3) (by omega)
    simp only [num, e0, e1, e2, z3]; simp; omega
  · simp only [num, e0, e1, e2, e3]; simp; omega

theorem chunk_length (xs : List Nat) (j : Nat) : (chunk xs j).length = min 4 (xs.length - 4 * j) := by simp [chunk]

theorem mask48 (n : Nat) (h : n < 18446744073709551616) : bits .and .u64 (n : Int) 281474976710655 = ((n % 281474976710656 : Nat) : Int) := by
  have := bits_mask .u64 64 (by decide) (fun x h0 h1 => by rw [IntKind.wrap_u64]; omega) 48 (by decide) (n : Int) (by omega) (by omega)
  have e : (2 : Int) ^ 48 - 1 = 281474976710655 := by decide
  rw [e] at this
  rw [this]
  omega

theorem sums_any (a : Option Addr) (xs : List Nat) (len cap : Nat) (w : World) (h : Has w a xs) (hlen : xs.length = len) (hcap : len ≤ cap) (hmax : len ≤ 140737488355328) :
    Calls Try.prog 9 #[.slice a len cap] w fun e w' => e = .returned (.tuple #[.int .i64 (sum1 xs : Nat), .int .i64 (sum2 xs : Nat)]) ∧ w = w' := by
  have HH := Lib.hid h
  clear h
  generalize hS1 : sum1 xs = S1
  generalize hS2 : sum2 xs = S2
  have HS1 := Lib.hid hS1
  have HS2 := Lib.hid hS2
  clear hS1 hS2
  go_enter Try.func9, Try.ntmps9
  go_wp2_with fail
  go_loop [4, 5, 6, 7] (fun p q j i => ∃ k : Nat, k ≤ wordsOf len ∧ i = .int .i64 ((4 * k : Nat) : Int) ∧ j = .int .u64 k ∧ p = .int .u64 ((sumA xs k % 18446744073709551616 : Nat) : Int) ∧ q = .int .u64 ((sumB xs k % 18446744073709551616 : Nat) : Int)) (fun _ _ _ i => len + 4 - (intOf i).toNat)
  case atStart => exact ⟨0, by omega, rfl, rfl, rfl, rfl⟩
  case round =>
    obtain ⟨k, hk, rfl, rfl, rfl, rfl⟩ := hrel
    unfold wordsOf at hk
    by_cases hlt : 4 * k < len
    · obtain ⟨b, off, rfl, hc⟩ := HH.out.cell (4 * k) (by omega)
      clear hc
      have HP : Hid (Has w (some ⟨b, off + 4 * k, none⟩) (chunk xs k)) := HH.out.part (4 * k) 4
      have hW := word_lt HH.out.byte k
      have HW := Lib.hid (shifted_chunk xs k _ (by omega) rfl)
      have HC := Lib.hid (chunk_length xs k)
      have HA : Hid (sumA xs (k + 1) = sumA xs k + word xs k) := rfl
      have HB : Hid (sumB xs (k + 1) = sumB xs k + (k + 1) * word xs k) := rfl
      generalize sumA xs k = A at *
      generalize sumB xs k = B at *
      generalize word xs k = W at *
      go_wp2_with fail
      have hn : (min (4 * (k : Int) + 4) (len : Int)).toNat - 4 * k = min 4 (xs.length - 4 * k) := by omega
      rw [hn]
      refine (word_any _ (chunk xs k) _ _ w HP.out (by rw [HC.out]) (by omega)).mono ?_
      rintro e w' ⟨rfl, rfl⟩
      rw [HW.out]
      clear HW HC HP hn HH
      go_wp2_with fail
      go_round
      case rel =>
        refine ⟨k + 1, by unfold wordsOf; omega, by go_num, by go_num, ?_, ?_⟩
        · rw [HA.out, IntKind.wrap_u64]
          congr 1
          omega
        · have hm : ((k : Int) + 1) * (W : Int) = (((k + 1) * W : Nat) : Int) := by simp
          rw [HB.out, hm]
          generalize (k + 1) * W = M
          rw [IntKind.wrap_u64, IntKind.wrap_u64]
          congr 1
          omega
      case measure => simp [intOf]; omega
    · have hk4 : k = wordsOf xs.length := by unfold wordsOf; omega
      have h1 := mask48 (sumA xs k % 18446744073709551616) (Nat.mod_lt _ (by decide))
      have h2 := mask48 (sumB xs k % 18446744073709551616) (Nat.mod_lt _ (by decide))
      have e1 : sum1 xs = sumA xs k % 281474976710656 := by unfold sum1; rw [← hk4]
      have e2 : sum2 xs = sumB xs k % 281474976710656 := by unfold sum2; rw [← hk4]
      clear hk4 HH
      generalize sumA xs k = A at *
      generalize sumB xs k = B at *
      rw [HS1.out] at e1
      rw [HS2.out] at e2
      have f1 : A % 18446744073709551616 % 281474976710656 = S1 := by omega
      have f2 : B % 18446744073709551616 % 281474976710656 = S2 := by omega
      rw [f1] at h1
      rw [f2] at h2
      have g1 : S1 < 281474976710656 := by omega
      have g2 : S2 < 281474976710656 := by omega
      clear e1 e2 f1 f2
      generalize A % 18446744073709551616 = A' at *
      generalize B % 18446744073709551616 = B' at *
      have hn : ¬ ((4 * k : Nat) : Int) < (len : Int) := by omega
      go_wp2_with fail
      go_ret2
      exact ⟨rfl, rfl⟩
end Go.Proofs.Ytgbgknjfbjmhgaa
