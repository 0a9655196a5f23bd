/- The sums of two runs of words, one behind the other. -/
import Derived.Test.YtgbgknjfbjmhgaaFew
namespace Go.Proofs.Ytgbgknjfbjmhgaa
open Go.RowKit

theorem at0_append_left {xs ys : List Nat} {k : Nat} (h : k < xs.length) : at0 (xs ++ ys) k = at0 xs k := by
  simp [at0, List.getD_eq_getElem?_getD, List.getElem?_append_left h]
theorem at0_append_right {xs ys : List Nat} {k n : Nat} (h : xs.length = n) : at0 (xs ++ ys) (n + k) = at0 ys k := by
  subst h
  simp [at0, List.getD_eq_getElem?_getD, List.getElem?_append_right]

theorem word_left {xs ys : List Nat} {m j : Nat} (h : xs.length = 4 * m) (hj : j < m) : word (xs ++ ys) j = word xs j := by
  unfold word
  rw [at0_append_left (by omega), at0_append_left (by omega), at0_append_left (by omega), at0_append_left (by omega)]
theorem word_right {xs ys : List Nat} {m j : Nat} (h : xs.length = 4 * m) : word (xs ++ ys) (m + j) = word ys j := by
  unfold word
  rw [show 4 * (m + j) = 4 * m + 4 * j by omega, Nat.add_assoc (4 * m), Nat.add_assoc (4 * m), Nat.add_assoc (4 * m), at0_append_right h, at0_append_right h, at0_append_right h, at0_append_right h]

theorem sumA_left {xs ys : List Nat} {m : Nat} (h : xs.length = 4 * m) : ∀ k, k ≤ m → sumA (xs ++ ys) k = sumA xs k
  | 0, _ => rfl
  | k + 1, hk => by simp only [sumA]; rw [sumA_left h k (by omega), word_left h (by omega)]
theorem sumB_left {xs ys : List Nat} {m : Nat} (h : xs.length = 4 * m) : ∀ k, k ≤ m → sumB (xs ++ ys) k = sumB xs k
  | 0, _ => rfl
  | k + 1, hk => by simp only [sumB]; rw [sumB_left h k (by omega), word_left h (by omega)]
theorem sumA_both {xs ys : List Nat} {m : Nat} (h : xs.length = 4 * m) : ∀ k, sumA (xs ++ ys) (m + k) = sumA xs m + sumA ys k
  | 0 => by rw [Nat.add_zero, sumA_left h m (Nat.le_refl _)]; rfl
  | k + 1 => by
    rw [← Nat.add_assoc]
    simp only [sumA]
    rw [sumA_both h k, word_right h]
    omega
theorem sumB_both {xs ys : List Nat} {m : Nat} (h : xs.length = 4 * m) : ∀ k, sumB (xs ++ ys) (m + k) = sumB xs m + sumB ys k + m * sumA ys k
  | 0 => by rw [Nat.add_zero, sumB_left h m (Nat.le_refl _)]; simp [sumB, sumA]
  | k + 1 => by
    rw [← Nat.add_assoc]
    simp only [sumB, sumA]
    rw [sumB_both h k, word_right h, Nat.mul_add, Nat.add_assoc m k 1, Nat.add_mul]
    omega

theorem sumA_le {xs : List Nat} (h : ∀ x ∈ xs, x < 256) : ∀ k, sumA xs k ≤ k * 4294967296
  | 0 => Nat.zero_le _
  | k + 1 => by
    have h1 := sumA_le h k
    have h2 := word_lt h k
    simp only [sumA]
    omega
theorem sumB_le {xs : List Nat} (h : ∀ x ∈ xs, x < 256) (n : Nat) : ∀ k, k ≤ n → sumB xs k ≤ k * (n * 4294967296)
  | 0, _ => by rw [Nat.zero_mul]; exact Nat.zero_le _
  | k + 1, hk => by
    have h1 := sumB_le h n k (by omega)
    have h2 := word_lt h k
    have h3 : (k + 1) * word xs k ≤ n * 4294967296 := Nat.mul_le_mul hk (by omega)
    have e : (k + 1) * (n * 4294967296) = k * (n * 4294967296) + n * 4294967296 := by rw [Nat.add_mul, Nat.one_mul]
    simp only [sumB]
    rw [e]
    exact Nat.add_le_add h1 h3

theorem sum1_small {xs : List Nat} (h : ∀ x ∈ xs, x < 256) (hl : xs.length ≤ 96) : sum1 xs = sumA xs (wordsOf xs.length) ∧ sum1 xs < 4398046511104 := by
  have h1 := sumA_le h (wordsOf xs.length)
  have h2 : wordsOf xs.length ≤ 24 := by unfold wordsOf; omega
  have h3 : sumA xs (wordsOf xs.length) < 4398046511104 := by omega
  unfold sum1
  rw [Nat.mod_eq_of_lt (by omega)]
  exact ⟨rfl, h3⟩
theorem sum2_small {xs : List Nat} (h : ∀ x ∈ xs, x < 256) (hl : xs.length ≤ 96) : sum2 xs = sumB xs (wordsOf xs.length) ∧ sum2 xs < 4398046511104 := by
  have h2 : wordsOf xs.length ≤ 24 := by unfold wordsOf; omega
  have h1 := sumB_le h 24 (wordsOf xs.length) h2
  have h4 : wordsOf xs.length * (24 * 4294967296) ≤ 24 * (24 * 4294967296) := Nat.mul_le_mul_right _ h2
  have h3 : sumB xs (wordsOf xs.length) < 4398046511104 := by omega
  unfold sum2
  rw [Nat.mod_eq_of_lt (by omega)]
  exact ⟨rfl, h3⟩

theorem sum_adds {xs ys : List Nat} {m : Nat} (hx : ∀ x ∈ xs, x < 256) (hy : ∀ x ∈ ys, x < 256) (h : xs.length = 4 * m) (hm : m ≤ 10) (hl : ys.length ≤ 40) :
    sum1 (xs ++ ys) = sum1 xs + sum1 ys ∧ sum2 (xs ++ ys) = sum2 xs + sum2 ys + m * sum1 ys := by
  have hb : ∀ x ∈ xs ++ ys, x < 256 := fun x hx' => by
    rcases List.mem_append.1 hx' with h1 | h1
    · exact hx x h1
    · exact hy x h1
  have hw : wordsOf xs.length = m := by unfold wordsOf; omega
  have hw2 : wordsOf (xs ++ ys).length = m + wordsOf ys.length := by unfold wordsOf; rw [List.length_append]; omega
  rw [(sum1_small hb (by rw [List.length_append]; omega)).1, (sum2_small hb (by rw [List.length_append]; omega)).1, (sum1_small hx (by omega)).1, (sum1_small hy (by omega)).1, (sum2_small hx (by omega)).1, (sum2_small hy (by omega)).1, hw, hw2]
  exact ⟨sumA_both h _, sumB_both h _⟩
end Go.Proofs.Ytgbgknjfbjmhgaa
