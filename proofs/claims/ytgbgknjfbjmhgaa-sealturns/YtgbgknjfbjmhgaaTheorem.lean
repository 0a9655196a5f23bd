/- Chapter 3's theorem: a track of which up to four bytes, one behind the other, were turned has other sums. -/
import Derived.Test.YtgbgknjfbjmhgaaAdds
namespace Go.Proofs.Ytgbgknjfbjmhgaa
open Go.RowKit

/-- Outside four places from K on U is as T. -/
def Near (U T : List Nat) (K : Nat) : Prop := ∀ m, m < K ∨ K + 4 ≤ m → at0 U m = at0 T m

theorem word_near {U T : List Nat} {K : Nat} (h : Near U T K) (j : Nat) (hj : j ≠ K / 4) (hk : j ≠ K / 4 + 1) : word U j = word T j := by
  unfold word
  rw [h (4 * j) (by omega), h (4 * j + 1) (by omega), h (4 * j + 2) (by omega), h (4 * j + 3) (by omega)]

/-- Two rows of numbers that differ at two neighbouring places at most: by how much their sums differ. -/
theorem sumA_near {U T : List Nat} {j0 : Nat} {D : Nat → Int} (hD : ∀ j, (word U j : Int) = (word T j : Int) + D j) (hz : ∀ j, j ≠ j0 → j ≠ j0 + 1 → D j = 0) : ∀ n,
    (n ≤ j0 → (sumA U n : Int) = (sumA T n : Int)) ∧ (n = j0 + 1 → (sumA U n : Int) = (sumA T n : Int) + D j0) ∧ (j0 + 1 < n → (sumA U n : Int) = (sumA T n : Int) + (D j0 + D (j0 + 1)))
  | 0 => ⟨fun _ => rfl, fun h => by omega, fun h => by omega⟩
  | n + 1 => by
    obtain ⟨i1, i2, i3⟩ := sumA_near hD hz n
    have hd := hD n
    have hzn := hz n
    have eU : sumA U (n + 1) = sumA U n + word U n := rfl
    have eT : sumA T (n + 1) = sumA T n + word T n := rfl
    rw [eU, eT]
    generalize sumA U n = a at *
    generalize sumA T n = b at *
    generalize word U n = c at *
    generalize word T n = d at *
    refine ⟨fun h => ?_, fun h => ?_, fun h => ?_⟩
    · have := i1 (by omega)
      have := hzn (by omega) (by omega)
      omega
    · obtain rfl : n = j0 := by omega
      have := i1 (by omega)
      omega
    · rcases Nat.lt_or_ge (j0 + 1) n with h1 | h1
      · have := i3 h1
        have := hzn (by omega) (by omega)
        omega
      · obtain rfl : n = j0 + 1 := by omega
        have := i2 rfl
        omega

theorem sumB_near {U T : List Nat} {j0 : Nat} {D : Nat → Int} (hD : ∀ j, (word U j : Int) = (word T j : Int) + D j) (hz : ∀ j, j ≠ j0 → j ≠ j0 + 1 → D j = 0) : ∀ n,
    (n ≤ j0 → (sumB U n : Int) = (sumB T n : Int)) ∧ (n = j0 + 1 → (sumB U n : Int) = (sumB T n : Int) + (j0 + 1 : Int) * D j0) ∧ (j0 + 1 < n → (sumB U n : Int) = (sumB T n : Int) + ((j0 + 1 : Int) * D j0 + (j0 + 2 : Int) * D (j0 + 1)))
  | 0 => ⟨fun _ => rfl, fun h => by omega, fun h => by omega⟩
  | n + 1 => by
    obtain ⟨i1, i2, i3⟩ := sumB_near hD hz n
    have hd : ((n : Int) + 1) * (word U n : Int) = ((n : Int) + 1) * (word T n : Int) + ((n : Int) + 1) * D n := by rw [hD n, Int.mul_add]
    have hzn := hz n
    have eU : (sumB U (n + 1) : Int) = (sumB U n : Int) + ((n : Int) + 1) * (word U n : Int) := by show ((sumB U n + (n + 1) * word U n : Nat) : Int) = _; simp
    have eT : (sumB T (n + 1) : Int) = (sumB T n : Int) + ((n : Int) + 1) * (word T n : Int) := by show ((sumB T n + (n + 1) * word T n : Nat) : Int) = _; simp
    rw [eU, eT, hd]
    generalize (sumB U n : Int) = a at *
    generalize (sumB T n : Int) = b at *
    generalize ((n : Int) + 1) * (word T n : Int) = d at *
    clear eU eT hd hD
    refine ⟨fun h => ?_, fun h => ?_, fun h => ?_⟩
    · have h1 := i1 (by omega)
      have h2 := hzn (by omega) (by omega)
      rw [h2, Int.mul_zero, h1]
      omega
    · obtain rfl : n = j0 := by omega
      have h1 := i1 (by omega)
      rw [h1]
      omega
    · rcases Nat.lt_or_ge (j0 + 1) n with h1 | h1
      · have h3 := i3 h1
        have h2 := hzn (by omega) (by omega)
        rw [h2, Int.mul_zero, h3]
        omega
      · obtain rfl : n = j0 + 1 := by omega
        have h3 := i2 rfl
        have e : (((j0 + 1 : Nat) : Int) + 1) = (j0 : Int) + 2 := by omega
        rw [h3, e]
        omega

theorem word_take {U : List Nat} {j : Nat} (hj : j < 21) : word (U.take 84) j = word U j := by
  unfold word
  rw [at0_take (by omega), at0_take (by omega), at0_take (by omega), at0_take (by omega)]
theorem sumA_take {U : List Nat} : ∀ n, n ≤ 21 → sumA (U.take 84) n = sumA U n
  | 0, _ => rfl
  | n + 1, h => by simp only [sumA]; rw [sumA_take n (by omega), word_take (by omega)]
theorem sumB_take {U : List Nat} : ∀ n, n ≤ 21 → sumB (U.take 84) n = sumB U n
  | 0, _ => rfl
  | n + 1, h => by simp only [sumB]; rw [sumB_take n (by omega), word_take (by omega)]

theorem six_is (U : List Nat) (k : Nat) : six U k = at0 U k * 1099511627776 + at0 U (k + 1) * 4294967296 + at0 U (k + 2) * 16777216 + at0 U (k + 3) * 65536 + at0 U (k + 4) * 256 + at0 U (k + 5) := by
  unfold six
  simp only [num]
  rw [at0_take (by omega), at0_take (by omega), at0_take (by omega), at0_take (by omega), at0_take (by omega), at0_take (by omega), at0_drop, at0_drop, at0_drop, at0_drop, at0_drop, at0_drop]
  simp only [Nat.add_zero]
  omega
theorem six_near {U T : List Nat} {K : Nat} (h : Near U T K) (k : Nat) (hk : k + 6 ≤ K ∨ K + 4 ≤ k) : six U k = six T k := by
  rw [six_is, six_is, h k (by omega), h (k + 1) (by omega), h (k + 2) (by omega), h (k + 3) (by omega), h (k + 4) (by omega), h (k + 5) (by omega)]

theorem right_sums {U : List Nat} (hb : ∀ x ∈ U, x < 256) (hl : U.length = 96) (hr : right U) : six U 84 = sumA U 21 ∧ six U 90 = sumB U 21 := by
  have hb' : ∀ x ∈ U.take 84, x < 256 := fun x hx => hb x (List.mem_of_mem_take hx)
  have hl' : (U.take 84).length = 84 := by rw [List.length_take]; omega
  have h1 := (sum1_small hb' (by omega)).1
  have h2 := (sum2_small hb' (by omega)).1
  rw [hl', show wordsOf 84 = 21 from rfl] at h1 h2
  rw [sumA_take 21 (Nat.le_refl _)] at h1
  rw [sumB_take 21 (Nat.le_refl _)] at h2
  exact ⟨by rw [hr.1, h1], by rw [hr.2, h2]⟩

theorem same_bytes {U T : List Nat} (hu : U.length = 96) (ht : T.length = 96) (h : ∀ i, i < 96 → at0 U i = at0 T i) : U = T := by
  apply List.ext_getElem (by omega)
  intro i h1 h2
  have := h i (by omega)
  simpa [at0, List.getD_eq_getElem?_getD, List.getElem?_eq_getElem h1, List.getElem?_eq_getElem h2] using this

theorem six_inj {U T : List Nat} (hb : ∀ x ∈ U, x < 256) (hc : ∀ x ∈ T, x < 256) (k : Nat) (h : six U k = six T k) (i : Nat) (hi : i < 6) : at0 U (k + i) = at0 T (k + i) := by
  rw [six_is, six_is] at h
  have a0 := at0_lt hb k
  have a1 := at0_lt hb (k + 1)
  have a2 := at0_lt hb (k + 2)
  have a3 := at0_lt hb (k + 3)
  have a4 := at0_lt hb (k + 4)
  have a5 := at0_lt hb (k + 5)
  have b0 := at0_lt hc k
  have b1 := at0_lt hc (k + 1)
  have b2 := at0_lt hc (k + 2)
  have b3 := at0_lt hc (k + 3)
  have b4 := at0_lt hc (k + 4)
  have b5 := at0_lt hc (k + 5)
  have hk : i = 0 ∨ i = 1 ∨ i = 2 ∨ i = 3 ∨ i = 4 ∨ i = 5 := by omega
  rcases hk with rfl | rfl | rfl | rfl | rfl | rfl <;> (try rw [Nat.add_zero]) <;> omega
theorem word_inj {U T : List Nat} (hb : ∀ x ∈ U, x < 256) (hc : ∀ x ∈ T, x < 256) (j : Nat) (h : word U j = word T j) (i : Nat) (hi : i < 4) : at0 U (4 * j + i) = at0 T (4 * j + i) := by
  unfold word at h
  have a0 := at0_lt hb (4 * j)
  have a1 := at0_lt hb (4 * j + 1)
  have a2 := at0_lt hb (4 * j + 2)
  have a3 := at0_lt hb (4 * j + 3)
  have b0 := at0_lt hc (4 * j)
  have b1 := at0_lt hc (4 * j + 1)
  have b2 := at0_lt hc (4 * j + 2)
  have b3 := at0_lt hc (4 * j + 3)
  have hk : i = 0 ∨ i = 1 ∨ i = 2 ∨ i = 3 := by omega
  rcases hk with rfl | rfl | rfl | rfl <;> (try rw [Nat.add_zero]) <;> omega

/-- Differences that leave both sums as they are, in two neighbouring words. -/
theorem two_zero (j : Nat) (d e : Int) (h1 : d + e = 0) (h2 : (j + 1 : Int) * d + (j + 2 : Int) * e = 0) : d = 0 ∧ e = 0 := by
  have h3 : (j + 2 : Int) * e = (j + 1 : Int) * e + e := by
    rw [show (j : Int) + 2 = (j + 1 : Int) + 1 by omega, Int.add_mul (j + 1 : Int) 1 e, Int.one_mul]
  have h4 : (j + 1 : Int) * d + (j + 1 : Int) * e = 0 := by rw [← Int.mul_add, h1, Int.mul_zero]
  generalize (j + 1 : Int) * d = p at *
  generalize (j + 1 : Int) * e = q at *
  omega

/-- THE THEOREM: two tracks whose sums are right, and that differ in four neighbouring places at most, are the same. -/
theorem turned_same {U T : List Nat} {K : Nat} (hb : ∀ x ∈ U, x < 256) (hc : ∀ x ∈ T, x < 256) (hu : U.length = 96) (ht : T.length = 96) (h : Near U T K) (ru : right U) (rt : right T) : U = T := by
  obtain ⟨u1, u2⟩ := right_sums hb hu ru
  obtain ⟨t1, t2⟩ := right_sums hc ht rt
  obtain ⟨D, hD⟩ : ∃ D : Nat → Int, ∀ j, (word U j : Int) = (word T j : Int) + D j := ⟨fun j => (word U j : Int) - (word T j : Int), fun j => by dsimp only; omega⟩
  have s84 : K / 4 ≤ 19 → six U 84 = six T 84 := fun hk => six_near h 84 (by omega)
  have s90 : K / 4 ≤ 20 → six U 90 = six T 90 := fun hk => six_near h 90 (by omega)
  have near : ∀ j, j ≠ K / 4 → j ≠ K / 4 + 1 → word U j = word T j := fun j => word_near h j
  clear h
  generalize K / 4 = j0 at *
  have hz : ∀ j, j ≠ j0 → j ≠ j0 + 1 → D j = 0 := fun j h1 h2 => by
    have := hD j
    rw [near j h1 h2] at this
    omega
  obtain ⟨a1, a2, a3⟩ := sumA_near hD hz 21
  obtain ⟨b1, b2, b3⟩ := sumB_near hD hz 21
  have key : (sumA U 21 : Int) = (sumA T 21 : Int) ∧ (sumB U 21 : Int) = (sumB T 21 : Int) ∧ ∀ j, j < 21 → D j = 0 := by
    rcases Nat.lt_trichotomy j0 20 with c | c | c
    · have x1 := s84 (by omega)
      have x2 := s90 (by omega)
      have y1 := a3 (by omega)
      have y2 := b3 (by omega)
      rw [u1, t1] at x1
      rw [u2, t2] at x2
      obtain ⟨z1, z2⟩ := two_zero j0 (D j0) (D (j0 + 1)) (by rw [x1] at y1; omega) (by rw [x2] at y2; omega)
      refine ⟨by rw [x1], by rw [x2], fun j _ => ?_⟩
      by_cases q1 : j = j0
      · rw [q1]; exact z1
      · by_cases q2 : j = j0 + 1
        · rw [q2]; exact z2
        · exact hz j q1 q2
    · subst c
      have x2 := s90 (by omega)
      have y1 := a2 rfl
      have y2 := b2 rfl
      rw [u2, t2] at x2
      rw [x2] at y2
      have z1 : D 20 = 0 := by
        have e : (((20 : Nat) : Int) + 1) = 21 := rfl
        rw [e] at y2
        omega
      refine ⟨by rw [y1, z1, Int.add_zero], by rw [x2], fun j hj => ?_⟩
      by_cases q1 : j = 20
      · rw [q1]; exact z1
      · exact hz j q1 (by omega)
    · exact ⟨a1 (by omega), b1 (by omega), fun j hj => hz j (by omega) (by omega)⟩
  obtain ⟨zA, zB, zD⟩ := key
  have words : ∀ j, j < 21 → word U j = word T j := fun j hj => by
    have h1 := hD j
    rw [zD j hj] at h1
    omega
  have q1 : six U 84 = six T 84 := by rw [u1, t1]; exact Int.ofNat.inj zA
  have q2 : six U 90 = six T 90 := by rw [u2, t2]; exact Int.ofNat.inj zB
  refine same_bytes hu ht fun i hi => ?_
  rcases Nat.lt_or_ge i 84 with h1 | h1
  · have := word_inj hb hc (i / 4) (words (i / 4) (by omega)) (i % 4) (by omega)
    rwa [show 4 * (i / 4) + i % 4 = i by omega] at this
  · rcases Nat.lt_or_ge i 90 with h2 | h2
    · have := six_inj hb hc 84 q1 (i - 84) (by omega)
      rwa [show 84 + (i - 84) = i by omega] at this
    · have := six_inj hb hc 90 q2 (i - 90) (by omega)
      rwa [show 90 + (i - 90) = i by omega] at this
end Go.Proofs.Ytgbgknjfbjmhgaa
