/- Chapter 3's theorem in this seat: a track of which up to four bytes, one behind the other, were turned has other sums. -/
import Derived.Test.YtjajenkagcdhlaaGreatJX
import Derived.Deep.CutBlock
namespace Go.Proofs.YtjajenkagcdhlaaGreat
open Go.RowKit
set_option maxRecDepth 100000

def six (xs : List Nat) (k : Nat) : Nat := num ((xs.drop k).take 6) 6
/-- Of a track: its sums are right. -/
def right (xs : List Nat) : Prop := six xs 84 = sum1 (xs.take 84) ∧ six xs 90 = sum2 (xs.take 84)
theorem num_digits (n : Nat) (h : n < 281474976710656) : num (digits n) 6 = n := by
  simp only [num, digits, at0, List.getD_cons_zero, List.getD_cons_succ]
  omega

theorem six_84 (B : List Nat) (m n : Nat) (h : B.length = 84) : six (B ++ (digits m ++ digits n)) 84 = num (digits m) 6 := by
  unfold six
  rw [← h, List.drop_left]
  rfl
theorem six_90 (B : List Nat) (m n : Nat) (h : B.length = 84) : six (B ++ (digits m ++ digits n)) 90 = num (digits n) 6 := by
  unfold six
  rw [← List.append_assoc, show 90 = (B ++ digits m).length by simp [digits, h], List.drop_left]
  rfl
theorem right_track {xs : List Nat} (h : xs.length ≤ 84) : right (track xs) := by
  unfold right
  rw [track_take h]
  unfold track
  rw [six_84 _ _ _ (body_length h), six_90 _ _ _ (body_length h), num_digits _ (sum1_lt _), num_digits _ (sum2_lt _)]
  exact ⟨rfl, rfl⟩
theorem sumA_le {xs : List Nat} (h : ∀ x ∈ xs, x < 256) : ∀ k, sumA xs k ≤ k * 4294967296
  | 0 => Nat.zero_le _
  | k + 1 => by
    have h1 := sumA_le h k
    have h2 := word_lt h k
    simp only [sumA]
    omega
theorem sumB_le {xs : List Nat} (h : ∀ x ∈ xs, x < 256) (n : Nat) : ∀ k, k ≤ n → sumB xs k ≤ k * (n * 4294967296)
  | 0, _ => by rw [Nat.zero_mul]; exact Nat.zero_le _
  | k + 1, hk => by
    have h1 := sumB_le h n k (by omega)
    have h2 := word_lt h k
    have h3 : (k + 1) * word xs k ≤ n * 4294967296 := Nat.mul_le_mul hk (by omega)
    have e : (k + 1) * (n * 4294967296) = k * (n * 4294967296) + n * 4294967296 := by rw [Nat.add_mul, Nat.one_mul]
    simp only [sumB]
    rw [e]
    exact Nat.add_le_add h1 h3

theorem sum1_small {xs : List Nat} (h : ∀ x ∈ xs, x < 256) (hl : xs.length ≤ 96) : sum1 xs = sumA xs (wordsOf xs.length) ∧ sum1 xs < 4398046511104 := by
  have h1 := sumA_le h (wordsOf xs.length)
  have h2 : wordsOf xs.length ≤ 24 := by unfold wordsOf; omega
  have h3 : sumA xs (wordsOf xs.length) < 4398046511104 := by omega
  unfold sum1
  rw [Nat.mod_eq_of_lt (by omega)]
  exact ⟨rfl, h3⟩
theorem sum2_small {xs : List Nat} (h : ∀ x ∈ xs, x < 256) (hl : xs.length ≤ 96) : sum2 xs = sumB xs (wordsOf xs.length) ∧ sum2 xs < 4398046511104 := by
  have h2 : wordsOf xs.length ≤ 24 := by unfold wordsOf; omega
  have h1 := sumB_le h 24 (wordsOf xs.length) h2
  have h4 : wordsOf xs.length * (24 * 4294967296) ≤ 24 * (24 * 4294967296) := Nat.mul_le_mul_right _ h2
  have h3 : sumB xs (wordsOf xs.length) < 4398046511104 := by omega
  unfold sum2
  rw [Nat.mod_eq_of_lt (by omega)]
  exact ⟨rfl, h3⟩

/-- Outside four places from K on U is as T. -/
def Near (U T : List Nat) (K : Nat) : Prop := ∀ m, m < K ∨ K + 4 ≤ m → at0 U m = at0 T m

theorem word_near {U T : List Nat} {K : Nat} (h : Near U T K) (j : Nat) (hj : j ≠ K / 4) (hk : j ≠ K / 4 + 1) : word U j = word T j := by
  unfold word
  rw [h (4 * j) (by omega), h (4 * j + 1) (by omega), h (4 * j + 2) (by omega), h (4 * j + 3) (by omega)]

/-- Two rows of numbers that differ at two neighbouring places at most: by how much their sums differ. -/
theorem sumA_near {U T : List Nat} {j0 : Nat} {D : Nat → Int} (hD : ∀ j, (word U j : Int) = (word T j : Int) + D j) (hz : ∀ j, j ≠ j0 → j ≠ j0 + 1 → D j = 0) : ∀ n,
    (n ≤ j0 → (sumA U n : Int) = (sumA T n : Int)) ∧ (n = j0 + 1 → (sumA U n : Int) = (sumA T n : Int) + D j0) ∧ (j0 + 1 < n → (sumA U n : Int) = (sumA T n : Int) + (D j0 + D (j0 + 1)))
  | 0 => ⟨fun _ => rfl, fun h => by omega, fun h => by omega⟩
  | n + 1 => by
    obtain ⟨i1, i2, i3⟩ := sumA_near hD hz n
    have hd := hD n
    have hzn := hz n
    have eU : sumA U (n + 1) = sumA U n + word U n := rfl
    have eT : sumA T (n + 1) = sumA T n + word T n := rfl
    rw [eU, eT]
    generalize sumA U n = a at *
    generalize sumA T n = b at *
    generalize word U n = c at *
    generalize word T n = d at *
    refine ⟨fun h => ?_, fun h => ?_, fun h => ?_⟩
    · have := i1 (by omega)
      have := hzn (by omega) (by omega)
      omega
    · obtain rfl : n = j0 := by omega
      have := i1 (by omega)
      omega
    · rcases Nat.lt_or_ge (j0 + 1) n with h1 | h1
      · have := i3 h1
        have := hzn (by omega) (by omega)
        omega
      · obtain rfl : n = j0 + 1 := by omega
        have := i2 rfl
        omega

theorem sumB_near {U T : List Nat} {j0 : Nat} {D : Nat → Int} (hD : ∀ j, (word U j : Int) = (word T j : Int) + D j) (hz : ∀ j, j ≠ j0 → j ≠ j0 + 1 → D j = 0) : ∀ n,
    (n ≤ j0 → (sumB U n : Int) = (sumB T n : Int)) ∧ (n = j0 + 1 → (sumB U n : Int) = (sumB T n : Int) + (j0 + 1 : Int) * D j0) ∧ (j0 + 1 < n → (sumB U n : Int) = (sumB T n : Int) + ((j0 + 1 : Int) * D j0 + (j0 + 2 : Int) * D (j0 + 1)))
  | 0 => ⟨fun _ => rfl, fun h => by omega, fun h => by omega⟩
  | n + 1 => by
    obtain ⟨i1, i2, i3⟩ := sumB_near hD hz n
    have hd : ((n : Int) + 1) * (word U n : Int) = ((n : Int) + 1) * (word T n : Int) + ((n : Int) + 1) * D n := by rw [hD n, Int.mul_add]
    have hzn := hz n
    have eU : (sumB U (n + 1) : Int) = (sumB U n : Int) + ((n : Int) + 1) * (word U n : Int) := by show ((sumB U n + (n + 1) * word U n : Nat) : Int) = _; simp
    have eT : (sumB T (n + 1) : Int) = (sumB T n : Int) + ((n : Int) + 1) * (word T n : Int) := by show ((sumB T n + (n + 1) * word T n : Nat) : Int) = _; simp
    rw [eU, eT, hd]
    generalize (sumB U n : Int) = a at *
    generalize (sumB T n : Int) = b at *
    generalize ((n : Int) + 1) * (word T n : Int) = d at *
    clear eU eT hd hD
    refine ⟨fun h => ?_, fun h => ?_, fun h => ?_⟩
    · have h1 := i1 (by omega)
      have h2 := hzn (by omega) (by omega)
      rw [h2, Int.mul_zero, h1]
      omega
    · obtain rfl : n = j0 := by omega
      have h1 := i1 (by omega)
      rw [h1]
      omega
    · rcases Nat.lt_or_ge (j0 + 1) n with h1 | h1
      · have h3 := i3 h1
        have h2 := hzn (by omega) (by omega)
        rw [h2, Int.mul_zero, h3]
        omega
      · obtain rfl : n = j0 + 1 := by omega
        have h3 := i2 rfl
        have e : (((j0 + 1 : Nat) : Int) + 1) = (j0 : Int) + 2 := by omega
        rw [h3, e]
        omega

theorem word_take {U : List Nat} {j : Nat} (hj : j < 21) : word (U.take 84) j = word U j := by
  unfold word
  rw [at0_take (by omega), at0_take (by omega), at0_take (by omega), at0_take (by omega)]
theorem sumA_take {U : List Nat} : ∀ n, n ≤ 21 → sumA (U.take 84) n = sumA U n
  | 0, _ => rfl
  | n + 1, h => by simp only [sumA]; rw [sumA_take n (by omega), word_take (by omega)]
theorem sumB_take {U : List Nat} : ∀ n, n ≤ 21 → sumB (U.take 84) n = sumB U n
  | 0, _ => rfl
  | n + 1, h => by simp only [sumB]; rw [sumB_take n (by omega), word_take (by omega)]

theorem six_is (U : List Nat) (k : Nat) : six U k = at0 U k * 1099511627776 + at0 U (k + 1) * 4294967296 + at0 U (k + 2) * 16777216 + at0 U (k + 3) * 65536 + at0 U (k + 4) * 256 + at0 U (k + 5) := by
  unfold six
  simp only [num]
  rw [at0_take (by omega), at0_take (by omega), at0_take (by omega), at0_take (by omega), at0_take (by omega), at0_take (by omega), at0_drop, at0_drop, at0_drop, at0_drop, at0_drop, at0_drop]
  simp only [Nat.add_zero]
  omega
theorem six_near {U T : List Nat} {K : Nat} (h : Near U T K) (k : Nat) (hk : k + 6 ≤ K ∨ K + 4 ≤ k) : six U k = six T k := by
  rw [six_is, six_is, h k (by omega), h (k + 1) (by omega), h (k + 2) (by omega), h (k + 3) (by omega), h (k + 4) (by omega), h (k + 5) (by omega)]

theorem right_sums {U : List Nat} (hb : ∀ x ∈ U, x < 256) (hl : U.length = 96) (hr : right U) : six U 84 = sumA U 21 ∧ six U 90 = sumB U 21 := by
  have hb' : ∀ x ∈ U.take 84, x < 256 := fun x hx => hb x (List.mem_of_mem_take hx)
  have hl' : (U.take 84).length = 84 := by rw [List.length_take]; omega
  have h1 := (sum1_small hb' (by omega)).1
  have h2 := (sum2_small hb' (by omega)).1
  rw [hl', show wordsOf 84 = 21 from rfl] at h1 h2
  rw [sumA_take 21 (Nat.le_refl _)] at h1
  rw [sumB_take 21 (Nat.le_refl _)] at h2
  exact ⟨by rw [hr.1, h1], by rw [hr.2, h2]⟩

theorem same_bytes {U T : List Nat} (hu : U.length = 96) (ht : T.length = 96) (h : ∀ i, i < 96 → at0 U i = at0 T i) : U = T := by
  apply List.ext_getElem (by omega)
  intro i h1 h2
  have := h i (by omega)
  simpa [at0, List.getD_eq_getElem?_getD, List.getElem?_eq_getElem h1, List.getElem?_eq_getElem h2] using this

theorem six_inj {U T : List Nat} (hb : ∀ x ∈ U, x < 256) (hc : ∀ x ∈ T, x < 256) (k : Nat) (h : six U k = six T k) (i : Nat) (hi : i < 6) : at0 U (k + i) = at0 T (k + i) := by
  rw [six_is, six_is] at h
  have a0 := at0_lt hb k
  have a1 := at0_lt hb (k + 1)
  have a2 := at0_lt hb (k + 2)
  have a3 := at0_lt hb (k + 3)
  have a4 := at0_lt hb (k + 4)
  have a5 := at0_lt hb (k + 5)
  have b0 := at0_lt hc k
  have b1 := at0_lt hc (k + 1)
  have b2 := at0_lt hc (k + 2)
  have b3 := at0_lt hc (k + 3)
  have b4 := at0_lt hc (k + 4)
  have b5 := at0_lt hc (k + 5)
  have hk : i = 0 ∨ i = 1 ∨ i = 2 ∨ i = 3 ∨ i = 4 ∨ i = 5 := by omega
  rcases hk with rfl | rfl | rfl | rfl | rfl | rfl <;> (try rw [Nat.add_zero]) <;> omega
theorem word_inj {U T : List Nat} (hb : ∀ x ∈ U, x < 256) (hc : ∀ x ∈ T, x < 256) (j : Nat) (h : word U j = word T j) (i : Nat) (hi : i < 4) : at0 U (4 * j + i) = at0 T (4 * j + i) := by
  unfold word at h
  have a0 := at0_lt hb (4 * j)
  have a1 := at0_lt hb (4 * j + 1)
  have a2 := at0_lt hb (4 * j + 2)
  have a3 := at0_lt hb (4 * j + 3)
  have b0 := at0_lt hc (4 * j)
  have b1 := at0_lt hc (4 * j + 1)
  have b2 := at0_lt hc (4 * j + 2)
  have b3 := at0_lt hc (4 * j + 3)
  have hk : i = 0 ∨ i = 1 ∨ i = 2 ∨ i = 3 := by omega
  rcases hk with rfl | rfl | rfl | rfl <;> (try rw [Nat.add_zero]) <;> omega

/-- Differences that leave both sums as they are, in two neighbouring words. -/
theorem two_zero (j : Nat) (d e : Int) (h1 : d + e = 0) (h2 : (j + 1 : Int) * d + (j + 2 : Int) * e = 0) : d = 0 ∧ e = 0 := by
  have h3 : (j + 2 : Int) * e = (j + 1 : Int) * e + e := by
    rw [show (j : Int) + 2 = (j + 1 : Int) + 1 by omega, Int.add_mul (j + 1 : Int) 1 e, Int.one_mul]
  have h4 : (j + 1 : Int) * d + (j + 1 : Int) * e = 0 := by rw [← Int.mul_add, h1, Int.mul_zero]
  generalize (j + 1 : Int) * d = p at *
  generalize (j + 1 : Int) * e = q at *
  omega

/-- THE THEOREM: two tracks whose sums are right, and that differ in four neighbouring places at most, are the same. -/
theorem near_same {U T : List Nat} {K : Nat} (hb : ∀ x ∈ U, x < 256) (hc : ∀ x ∈ T, x < 256) (hu : U.length = 96) (ht : T.length = 96) (h : Near U T K) (ru : right U) (rt : right T) : U = T := by
  obtain ⟨u1, u2⟩ := right_sums hb hu ru
  obtain ⟨t1, t2⟩ := right_sums hc ht rt
  obtain ⟨D, hD⟩ : ∃ D : Nat → Int, ∀ j, (word U j : Int) = (word T j : Int) + D j := ⟨fun j => (word U j : Int) - (word T j : Int), fun j => by dsimp only; omega⟩
  have s84 : K / 4 ≤ 19 → six U 84 = six T 84 := fun hk => six_near h 84 (by omega)
  have s90 : K / 4 ≤ 20 → six U 90 = six T 90 := fun hk => six_near h 90 (by omega)
  have near : ∀ j, j ≠ K / 4 → j ≠ K / 4 + 1 → word U j = word T j := fun j => word_near h j
  clear h
  generalize K / 4 = j0 at *
  have hz : ∀ j, j ≠ j0 → j ≠ j0 + 1 → D j = 0 := fun j h1 h2 => by
    have := hD j
    rw [near j h1 h2] at this
    omega
  obtain ⟨a1, a2, a3⟩ := sumA_near hD hz 21
  obtain ⟨b1, b2, b3⟩ := sumB_near hD hz 21
  have key : (sumA U 21 : Int) = (sumA T 21 : Int) ∧ (sumB U 21 : Int) = (sumB T 21 : Int) ∧ ∀ j, j < 21 → D j = 0 := by
    rcases Nat.lt_trichotomy j0 20 with c | c | c
    · have x1 := s84 (by omega)
      have x2 := s90 (by omega)
      have y1 := a3 (by omega)
      have y2 := b3 (by omega)
      rw [u1, t1] at x1
      rw [u2, t2] at x2
      obtain ⟨z1, z2⟩ := two_zero j0 (D j0) (D (j0 + 1)) (by rw [x1] at y1; omega) (by rw [x2] at y2; omega)
      refine ⟨by rw [x1], by rw [x2], fun j _ => ?_⟩
      by_cases q1 : j = j0
      · rw [q1]; exact z1
      · by_cases q2 : j = j0 + 1
        · rw [q2]; exact z2
        · exact hz j q1 q2
    · subst c
      have x2 := s90 (by omega)
      have y1 := a2 rfl
      have y2 := b2 rfl
      rw [u2, t2] at x2
      rw [x2] at y2
      have z1 : D 20 = 0 := by
        have e : (((20 : Nat) : Int) + 1) = 21 := rfl
        rw [e] at y2
        omega
      refine ⟨by rw [y1, z1, Int.add_zero], by rw [x2], fun j hj => ?_⟩
      by_cases q1 : j = 20
      · rw [q1]; exact z1
      · exact hz j q1 (by omega)
    · exact ⟨a1 (by omega), b1 (by omega), fun j hj => hz j (by omega) (by omega)⟩
  obtain ⟨zA, zB, zD⟩ := key
  have words : ∀ j, j < 21 → word U j = word T j := fun j hj => by
    have h1 := hD j
    rw [zD j hj] at h1
    omega
  have q1 : six U 84 = six T 84 := by rw [u1, t1]; exact Int.ofNat.inj zA
  have q2 : six U 90 = six T 90 := by rw [u2, t2]; exact Int.ofNat.inj zB
  refine same_bytes hu ht fun i hi => ?_
  rcases Nat.lt_or_ge i 84 with h1 | h1
  · have := word_inj hb hc (i / 4) (words (i / 4) (by omega)) (i % 4) (by omega)
    rwa [show 4 * (i / 4) + i % 4 = i by omega] at this
  · rcases Nat.lt_or_ge i 90 with h2 | h2
    · have := six_inj hb hc 84 q1 (i - 84) (by omega)
      rwa [show 84 + (i - 84) = i by omega] at this
    · have := six_inj hb hc 90 q2 (i - 90) (by omega)
      rwa [show 90 + (i - 90) = i by omega] at this
end Go.Proofs.YtjajenkagcdhlaaGreat
/- For lariatlaw6.VaultTurned: of home tracks one of which was turned nothing else is read as a vault. -/
namespace Go.Proofs.YtjajenkagcdhlaaGreat
open Go.RowKit
set_option maxRecDepth 100000

theorem recPages_right : ∀ {ks : List Nat} {b : List Nat}, ∀ x ∈ recPages ks b, right x.2
  | [], _, x, h => by cases h
  | k :: ks, b, x, h => by
    rcases List.mem_cons.1 h with rfl | h
    · exact right_track (by rw [pageText_length]; omega)
    · exact recPages_right x h
theorem allPages_right : ∀ {a : Places} {rs : Recs}, ∀ x ∈ allPages a rs, right x.2
  | [], _, x, h => by simp [allPages] at h
  | ks :: a, [], x, h => by simp [allPages] at h
  | ks :: a, r :: rs, x, h => by
    have h : x ∈ recPages ks (bytesOf r) ++ allPages a rs := h
    rcases List.mem_append.1 h with h | h
    · exact recPages_right x h
    · exact allPages_right x h
/-- All that is laid of a vault is sealed. -/
theorem layM_right {rs : Recs} {a : Places} {h : Nat} (v : Vld rs a h) : ∀ x ∈ layM rs a, right x.2 := fun x hx => by
  rcases List.mem_cons.1 hx with rfl | hx
  · exact right_track (by rw [rootText_length v.a41]; exact Nat.le_refl _)
  · exact allPages_right x hx
theorem layM_at {rs : Recs} {a : Places} {h j : Nat} (v : Vld rs a h) (hj : j ∈ 0 :: a.flatten) : ∃ b, (j, b) ∈ layM rs a := by
  rw [← layM_keys v.len] at hj
  obtain ⟨x, hx, rfl⟩ := List.mem_map.1 hj
  exact ⟨x.2, hx⟩
theorem holds_but {N N' : Hom} {rs : Recs} {a : Places} {h j : Nat} (v : Vld rs a h) (hh : Holds N (layM rs a)) (hj : ¬ j ∈ 0 :: a.flatten) (he : ∀ i, i ≠ j → N'[i]? = N[i]?) : Holds N' (layM rs a) := fun x hx => by
  rw [he x.1 (fun e => hj (by rw [← e, ← layM_keys v.len]; exact List.mem_map.2 ⟨x, hx, rfl⟩))]
  exact hh x hx
theorem turned_reading {N : Hom} {rs rs' : Recs} {a a' : Places} (h0 : 0 < N.length) (h16 : N.length ≤ 65536) {j K : Nat} {b b' : List Nat} (hT : ∀ x ∈ N, Trk x) (hb : Trk b') (hj : N[j]? = some b) (hn : Near b' b K) (hR : Reading N rs a) (hR' : Reading (N.set j b') rs' a') : rs' = rs := by
  have hjl := lt_of_get hj
  have hT' : ∀ x ∈ N.set j b', Trk x := fun x hx => by
    rcases List.mem_or_eq_of_mem_set hx with q | rfl
    · exact hT x q
    · exact hb
  have hl : (N.set j b').length = N.length := List.length_set
  obtain ⟨v, hh⟩ := hR.vld hT h0
  obtain ⟨v', hh'⟩ := hR'.vld hT' (by rw [hl]; exact h0)
  by_cases hu : j ∈ 0 :: a.flatten
  · by_cases hu' : j ∈ 0 :: a'.flatten
    · obtain ⟨p, hp⟩ := layM_at v hu
      obtain ⟨p', hp'⟩ := layM_at v' hu'
      have e1 : N[j]? = some p := hh _ hp
      have e2 : (N.set j b')[j]? = some p' := hh' _ hp'
      rw [hj] at e1
      injection e1 with e1
      rw [List.getElem?_set_self hjl] at e2
      injection e2 with e2
      have r1 := layM_right v _ hp
      have r2 := layM_right v' _ hp'
      have hbT := hT b (mem_of_get hj)
      have e := near_same hb.byte hbT.byte hb.len hbT.len hn (by rw [e2]; exact r2) (by rw [e1]; exact r1)
      have eN : N.set j b' = N := by
        apply List.ext_getElem?
        intro i
        by_cases q : j = i
        · subst q
          rw [List.getElem?_set_self hjl, hj, e]
        · rw [List.getElem?_set_ne q]
      rw [eN] at hR'
      exact (reading_one hR' hR).1
    · have hh2 : Holds N (layM rs' a') := holds_but v' hh' hu' (fun i hi => (List.getElem?_set_ne (fun q => hi q.symm)).symm)
      rw [hl] at v'
      exact (reading_one (reading_all h16 v' hh2) hR).1
  · have hh2 : Holds (N.set j b') (layM rs a) := holds_but v hh hu (fun i hi => List.getElem?_set_ne (fun q => hi q.symm))
    exact (reading_one hR' (reading_all (by rw [hl]; exact h16) (by rw [hl]; exact v) hh2)).1
end Go.Proofs.YtjajenkagcdhlaaGreat
/- For lariatlaw6.VaultTurned: what is opened of a drum that was closed and one track of which was turned. -/
namespace Go.Proofs.YtjajenkagcdhlaaGreat
open Go.RowKit
set_option maxRecDepth 100000

theorem openL_home {D : DS} (q : Quiet D) {k' l r h : Nat} {ws : Wri} (hlen : D.seen.length = 2 + l + h) (hl : leavesC (D.seen.getD k' []) = l) (hr : roundC (D.seen.getD k' []) = r)
    (hws : readAll ((D.seen.drop 2).take l).length ((D.seen.drop 2).take l) r 1 h (List.replicate h none) = ws) (hwl : ws.length = h) :
    (openL D k').ws.length = h ∧ ∀ k, k < h → (openL D k').homeAt k = (match ws.getD k none with | some b => b | none => D.seen.getD (2 + l + k) []) := by
  have hTl : D.T.length = 2 + l + h := by rw [← DS.seen_length]; exact hlen
  have e0 : (LS.counted D k').reads = { D := D, leaves := l, round := r, posts := 0, laid := 0, ws := ws, lost := false } := by
    unfold LS.reads LS.counted LS.pages
    simp only [hl, hr]
    rw [hTl, show 2 + l + h - 2 - l = h by omega, List.length_replicate, hws]
  unfold openL
  rw [e0]
  obtain ⟨L, hL⟩ : ∃ L : LS, { D := D, leaves := l, round := r, posts := 0, laid := 0, ws := ws, lost := false } = L := ⟨_, rfl⟩
  rw [hL]
  have eD : L.D = D := by rw [← hL]
  have eLv : L.leaves = l := by rw [← hL]
  have eR : L.round = r := by rw [← hL]
  have eW : L.ws = ws := by rw [← hL]
  have qL : Quiet L.D := by rw [eD]; exact q
  have hta := qL.ta L.nextT
  have hq := qL.run L.nextT
  have hnt : L.nextT = homeT l 0 ws ++ beginT (r + 1) l := by unfold LS.nextT; rw [eLv, eR, eW]
  rw [hnt] at hta
  rw [show L.D.ta = (L.D.T, L.D.A) from rfl, ideals_next, ← hnt] at hta
  have hT : (L.D.run L.nextT).T = renewed L.D.seen l r ws := congrArg Prod.fst hta
  have hA : (L.D.run L.nextT).A = [] := congrArg Prod.snd hta
  have hS : (L.D.run L.nextT).seen = renewed L.D.seen l r ws := by unfold DS.seen; rw [hA, hT]; rfl
  rw [next_up hq.down]
  refine ⟨by show (List.replicate L.ws.length none).length = h; rw [List.length_replicate, eW, hwl], fun k hk => ?_⟩
  have hg := renewed_get (V := L.D.seen) (l := l) (r := r) (ws := ws) (by rw [eD, hlen, hwl]; exact Nat.le_refl _) (2 + l + k)
  by_cases hc : 2 + l + k = (r + 1) % 2
  · omega
  · rw [if_neg hc, if_pos (by omega), show 2 + l + k - (2 + l) = k by omega] at hg
    unfold LS.homeAt
    have hn : (List.replicate L.ws.length (none : Option (List Nat))).getD k none = none := by
      rw [List.getD_eq_getElem?_getD, List.getElem?_replicate]
      split <;> rfl
    simp only [hn]
    rw [hS, eLv, List.getD_eq_getElem?_getD, hg, eD]
    cases ws.getD k none with
    | some b => rfl
    | none => simp [List.getD_eq_getElem?_getD]
/-- The greater of two covers counts. -/
theorem coverK_cur {D : DS} {R l k' : Nat} {o : List Nat} (h : coverK D = some k') (hc : D.seen[R % 2]? = some (cover R l)) (hrc : readC (cover R l) (R % 2) D.T.length = true) (hR : R < 4294967296) (ho : D.seen[(R + 1) % 2]? = some o) (hlow : ∀ k, readC o k D.T.length = true → roundC o < R) : k' = R % 2 := by
  have hrr : roundC (cover R l) = R := roundC_cover hR
  unfold coverK at h
  have h2 : R % 2 = 0 ∨ R % 2 = 1 := by omega
  rcases h2 with h2 | h2
  · have h3 : (R + 1) % 2 = 1 := by omega
    rw [h2] at hc hrc ⊢
    rw [h3] at ho
    simp only [getD_of hc, getD_of ho] at h
    by_cases q : readC o 1 D.T.length = true
    · rw [if_pos q, if_pos hrc, if_pos (by rw [hrr]; exact .inl (hlow 1 q))] at h
      injection h with h
      exact h.symm
    · rw [if_neg q, if_pos hrc] at h
      injection h with h
      exact h.symm
  · have h3 : (R + 1) % 2 = 0 := by omega
    rw [h2] at hc hrc ⊢
    rw [h3] at ho
    simp only [getD_of hc, getD_of ho] at h
    rw [if_pos hrc] at h
    by_cases q : readC o 0 D.T.length = true
    · rw [if_pos q, if_neg (by rw [hrr]; have := hlow 0 q; omega)] at h
      injection h with h
      exact h.symm
    · rw [if_neg q] at h
      injection h with h
      exact h.symm
theorem cover_right (r l : Nat) : right (cover r l) := by
  unfold cover
  exact right_track (by rw [coverText_length]; exact Nat.le_refl _)
theorem leaf_right {r n k : Nat} {e : List Ent} (h : ∀ x ∈ e, x.2.length = 96) (h0 : 0 < e.length) (hk : k < leavesOf e.length) : right (leaf r n e k) := by
  unfold leaf
  exact right_track (by rw [leafText_length _ _ _ _ _ (leafOf h h0 hk)]; exact Nat.le_refl _)
/-- No posting of a round stands where the first leaf is of no such round, or is none. -/
theorem readP_none {ps : List (List Nat)} {r n home : Nat} (hr : r < 256) (h : ∀ b, ps[0]? = some b → right b → at0 b 83 ≠ r) : readP ps r n home = none := by
  cases ps with
  | nil => rfl
  | cons p q =>
    unfold readP
    simp only
    split
    · rfl
    · split
      · rename_i hg
        split
        · rename_i he
          exfalso
          have hlen : 0 < (entsOf (p :: q) (countOf p)).length := hg.2.2
          have h96 : ∀ x ∈ entsOf (p :: q) (countOf p), x.2.length = 96 := fun x hx => (hg.1 x hx).2
          have h2 := leavesOf_two hlen
          have hp : (posting r n (entsOf (p :: q) (countOf p)))[0]? = some (leaf r n (entsOf (p :: q) (countOf p)) 0) := by
            unfold posting
            rw [List.getElem?_map, List.getElem?_range (by omega)]
            rfl
          rw [he] at hp
          have hl : 0 < leavesOf (countOf p) := by
            have : ((p :: q).take (leavesOf (countOf p)))[0]? ≠ none := by rw [hp]; simp
            rcases Nat.eq_zero_or_pos (leavesOf (countOf p)) with e | e
            · rw [e] at this; simp at this
            · exact e
          rw [List.getElem?_take_of_lt hl] at hp
          have hp' : p = leaf r n (entsOf (p :: q) (countOf p)) 0 := by simpa using hp
          have hR := leaf_right (r := r) (n := n) (k := 0) h96 hlen (by omega)
          have hE := leaf_ends (r := r) (n := n) (k := 0) hr h96 hlen (by omega)
          rw [← hp'] at hR hE
          exact h p rfl hR hE.2.2.2
        · rfl
      · rfl
/-- A drum on which a ledger was closed. -/
structure Cls (T : Hom) (l r : Nat) (N : Hom) (es : List (List Ent)) : Prop where
  ex : ∃ V, RecE V l r N es ∧ T = renewed V l r (wrote N es)
  r2 : r + 1 < 255
  ok : ∀ b ∈ T, right b
section
variable {T N : Hom} {l r : Nat} {es : List (List Ent)}
theorem Cls.live (c : Cls T l r N es) : Live T l (r + 1) N [] := by
  obtain ⟨⟨V, R, rfl⟩, h2, _⟩ := c
  exact Live.renew R h2
theorem Cls.len (c : Cls T l r N es) : T.length = 2 + l + N.length := c.live.is.len
theorem Cls.trk (c : Cls T l r N es) : ∀ b ∈ T, Trk b := c.live.is.trk
theorem Cls.cov (c : Cls T l r N es) : T[(r + 1) % 2]? = some (cover (r + 1) l) := c.live.is.cov
theorem Cls.old (c : Cls T l r N es) : T[r % 2]? = some (cover r l) ∧ 1 ≤ r := by
  obtain ⟨⟨V, R, rfl⟩, h2, _⟩ := c
  have hwl := wrote_length N es
  have hg := renewed_get (V := V) (l := l) (r := r) (ws := wrote N es) (by rw [hwl, R.len]; exact Nat.le_refl _)
  have := R.r1
  have := R.lv
  refine ⟨?_, R.r1⟩
  rw [hg, if_neg (by omega), if_neg (by omega)]
  exact R.cov
theorem Cls.home (c : Cls T l r N es) {k : Nat} (hk : k < N.length) : T[2 + l + k]? = N[k]? := by
  have R := c.live.is
  have h1 := R.home k hk
  have h0 : (tookAll (List.replicate N.length none) ([] : List (List Ent))).getD k none = none := by
    show (List.replicate N.length none).getD k none = none
    rw [List.getD_eq_getElem?_getD, List.getElem?_replicate]
    split <;> rfl
  unfold homeOf at h1
  rw [h0] at h1
  simp only at h1
  rw [h1]
  obtain ⟨y, hy⟩ := get_of_lt (l := T) (n := 2 + l + k) (by rw [c.len]; omega)
  rw [getD_of hy, hy]
/-- What the elder round wrote is home. -/
theorem Cls.wrote (c : Cls T l r N es) : readAll ((T.drop 2).take l).length ((T.drop 2).take l) r 1 N.length (List.replicate N.length none) = wrote N es ∧ ∀ k b, (wrote N es).getD k none = some b → N[k]? = some b := by
  obtain ⟨⟨V, R, rfl⟩, h2, _⟩ := c
  have hwl := wrote_length N es
  have hg := renewed_get (V := V) (l := l) (r := r) (ws := Go.Proofs.YtjajenkagcdhlaaGreat.wrote N es) (by rw [hwl, R.len]; exact Nat.le_refl _)
  have hlt : ((renewed V l r (Go.Proofs.YtjajenkagcdhlaaGreat.wrote N es)).drop 2).take l = leavesT V l := by
    show leavesT (renewed V l r (Go.Proofs.YtjajenkagcdhlaaGreat.wrote N es)) l = leavesT V l
    apply List.ext_getElem?
    intro i
    rw [leavesT_get, leavesT_get]
    by_cases h : i < l
    · rw [if_pos h, if_pos h, hg, if_neg (by omega), if_neg (by omega)]
    · rw [if_neg h, if_neg h]
  constructor
  · rw [hlt]
    obtain ⟨rest, h1, h3⟩ := R.pages
    have hl : (leavesT V l).length = l := by
      unfold leavesT
      rw [List.length_take, List.length_drop, R.len]
      omega
    have h4 : (leavesT V l).length ≤ 4096 := by rw [hl]; have := R.len; have := R.many; omega
    rw [h1] at h4 ⊢
    exact readAll_posts (by have := R.len; have := R.many; omega) es 1 _ _ rest R.goes (by rw [Nat.add_comm]; exact h3) (Nat.le_refl _) h4
  · intro k b hk
    have hkl : k < N.length := by
      rcases Nat.lt_or_ge k (Go.Proofs.YtjajenkagcdhlaaGreat.wrote N es).length with q | q
      · rw [hwl] at q; exact q
      · rw [List.getD_eq_getElem?_getD, List.getElem?_eq_none q] at hk
        cases hk
    have := R.home k hkl
    unfold homeOf at this
    rw [hk] at this
    exact this
theorem Cls.low (c : Cls T l r N es) {i : Nat} (hi : i < l) : ∃ b, T[2 + i]? = some b ∧ at0 b 83 ≤ r := by
  obtain ⟨⟨V, R, rfl⟩, h2, _⟩ := c
  have hwl := wrote_length N es
  have hg := renewed_get (V := V) (l := l) (r := r) (ws := Go.Proofs.YtjajenkagcdhlaaGreat.wrote N es) (by rw [hwl, R.len]; exact Nat.le_refl _)
  obtain ⟨b, hb, hl⟩ := R.low i hi
  exact ⟨b, by rw [hg, if_neg (by omega), if_neg (by omega)]; exact hb, hl⟩
/-- What is opened of it, one track being turned. -/
theorem turned_home (c : Cls T l r N es) {D : DS} (q : Quiet D) {t K : Nat} {b b' : List Nat} (hb : T[t]? = some b) (hT : Trk b') (hn : Near b' b K) (hD : D.seen = T.set t b') {k' : Nat} (hk : coverK D = some k') :
    (openL D k').ws.length = N.length ∧ ∃ N', (N' = N ∨ ∃ j bj, N[j]? = some bj ∧ Near b' bj K ∧ N' = N.set j b') ∧ ∀ k, k < N.length → N'[k]? = some ((openL D k').homeAt k) := by
  have hbl := lt_of_get hb
  have hlen := c.len
  have hTl : D.T.length = 2 + l + N.length := by rw [← DS.seen_length, hD, List.length_set]; exact hlen
  have hsl : D.seen.length = 2 + l + N.length := by rw [DS.seen_length]; exact hTl
  have R := c.live.is
  obtain ⟨hold, hr1⟩ := c.old
  have hcur := c.cov
  have hbT := c.trk b (mem_of_get hb)
  have hbr := c.ok b (mem_of_get hb)
  have hcl : l < 65536 := by have := R.len; have := R.many; omega
  have h2 := c.r2
  have same : right b' → b' = b := fun hr => near_same hT.byte hbT.byte hT.len hbT.len hn hr hbr
  have get : ∀ i, D.seen[i]? = if t = i then some b' else T[i]? := fun i => by
    rw [hD]
    by_cases e : t = i
    · subst e
      rw [if_pos rfl, List.getElem?_set_self hbl]
    · rw [if_neg e, List.getElem?_set_ne e]
  obtain ⟨_, hrd, hk2⟩ := pick_some hk
  have hfit : fits l D.T.length = true := by rw [hTl, ← hlen]; exact R.fits
  have hrcur : readC (cover (r + 1) l) ((r + 1) % 2) D.T.length = true := readC_cover (by omega) (by omega) hcl hfit
  have hci := readC_is hrd
  -- the cover that counts is one of the two
  obtain ⟨s, hs, hsk, hsr⟩ : ∃ s, (s = r ∨ s = r + 1) ∧ D.seen.getD k' [] = cover s l ∧ k' = s % 2 := by
    have hk3 : k' = r % 2 ∨ k' = (r + 1) % 2 := by omega
    rcases hk3 with e | e
    · refine ⟨r, .inl rfl, ?_, e⟩
      have hg := get k'
      by_cases et : t = k'
      · rw [if_pos et] at hg
        rw [getD_of hg] at hci ⊢
        have hrr : right b' := by rw [hci]; exact cover_right _ _
        rw [same hrr]
        rw [et, e, hold] at hb
        injection hb with hb
        exact hb.symm
      · rw [if_neg et, e, hold] at hg
        rw [e]
        exact getD_of hg
    · refine ⟨r + 1, .inr rfl, ?_, e⟩
      have hg := get k'
      by_cases et : t = k'
      · rw [if_pos et] at hg
        rw [getD_of hg] at hci ⊢
        have hrr : right b' := by rw [hci]; exact cover_right _ _
        rw [same hrr]
        rw [et, e, hcur] at hb
        injection hb with hb
        exact hb.symm
      · rw [if_neg et, e, hcur] at hg
        rw [e]
        exact getD_of hg
  have hlv : leavesC (D.seen.getD k' []) = l := by rw [hsk]; exact leavesC_cover hcl
  have hro : roundC (D.seen.getD k' []) = s := by rw [hsk]; exact roundC_cover (by omega)
  rcases hs with rfl | rfl
  · -- the elder one: the newer is turned
    have ht : t = (s + 1) % 2 := by
      by_cases et : t = (s + 1) % 2
      · exact et
      · exfalso
        have h3 : D.seen[(s + 1) % 2]? = some (cover (s + 1) l) := by rw [get, if_neg et]; exact hcur
        have h4 : D.seen[(s + 1 + 1) % 2]? = some (cover s l) := by
          have hg := get k'
          have hkl : k' < D.seen.length := by rw [hsl]; omega
          obtain ⟨y, hy⟩ := get_of_lt hkl
          rw [getD_of hy] at hsk
          rw [show (s + 1 + 1) % 2 = k' by omega, hy, hsk]
        have := coverK_cur hk h3 hrcur (by omega) h4 (fun k _ => by rw [roundC_cover (by omega)]; omega)
        omega
    have hp : (D.seen.drop 2).take l = (T.drop 2).take l := by
      apply List.ext_getElem?
      intro i
      rw [List.getElem?_take, List.getElem?_take]
      split
      · rw [List.getElem?_drop, List.getElem?_drop, get, if_neg (by omega)]
      · rfl
    obtain ⟨hw, hwN⟩ := c.wrote
    obtain ⟨h3, h4⟩ := openL_home q hsl hlv hro (by rw [hp]; exact hw) (wrote_length N es)
    refine ⟨h3, N, .inl rfl, fun k hkN => ?_⟩
    rw [h4 k hkN]
    cases hwk : (wrote N es).getD k none with
    | some x => exact hwN k x hwk
    | none =>
      simp only
      have hh := c.home hkN
      have hg := get (2 + l + k)
      rw [if_neg (by omega), hh] at hg
      obtain ⟨y, hy⟩ := get_of_lt hkN
      rw [hy] at hg
      rw [getD_of hg, hy]
  · -- the newer one
    have hw : readAll ((D.seen.drop 2).take l).length ((D.seen.drop 2).take l) (r + 1) 1 N.length (List.replicate N.length none) = List.replicate N.length none := by
      have hnone : readP ((D.seen.drop 2).take l) (r + 1) 1 N.length = none := by
        refine readP_none (by omega) fun p hp hpr => ?_
        have hl0 : 0 < l := by have := R.lv; omega
        rw [List.getElem?_take_of_lt hl0, List.getElem?_drop, get] at hp
        obtain ⟨x, hx, hxl⟩ := c.low hl0
        by_cases et : t = 2 + 0
        · rw [if_pos et] at hp
          injection hp with hp
          subst hp
          have e := same hpr
          rw [et, hx] at hb
          injection hb with hb
          rw [e, ← hb]
          omega
        · rw [if_neg et, hx] at hp
          injection hp with hp
          rw [← hp]
          omega
      cases hf : ((D.seen.drop 2).take l).length with
      | zero => rfl
      | succ f =>
        unfold readAll
        rw [hnone]
    obtain ⟨h3, h4⟩ := openL_home q hsl hlv hro hw (List.length_replicate)
    have h5 : ∀ k, k < N.length → (openL D k').homeAt k = D.seen.getD (2 + l + k) [] := fun k hkN => by
      rw [h4 k hkN]
      have hn : (List.replicate N.length (none : Option (List Nat))).getD k none = none := by
        rw [List.getD_eq_getElem?_getD, List.getElem?_replicate]
        split <;> rfl
      rw [hn]
    by_cases ht : 2 + l ≤ t
    · obtain ⟨j, hj⟩ : ∃ j, t = 2 + l + j := ⟨t - (2 + l), by omega⟩
      have hjN : j < N.length := by omega
      refine ⟨h3, N.set j b', .inr ⟨j, b, by rw [← c.home hjN, ← hj]; exact hb, hn, rfl⟩, fun k hkN => ?_⟩
      rw [h5 k hkN]
      have hg := get (2 + l + k)
      by_cases e : j = k
      · subst e
        rw [if_pos hj] at hg
        rw [List.getElem?_set_self hjN, getD_of hg]
      · rw [if_neg (by omega), c.home hkN] at hg
        rw [List.getElem?_set_ne e]
        obtain ⟨y, hy⟩ := get_of_lt hkN
        rw [hy] at hg
        rw [getD_of hg, hy]
    · refine ⟨h3, N, .inl rfl, fun k hkN => ?_⟩
      rw [h5 k hkN]
      have hg := get (2 + l + k)
      rw [if_neg (by omega), c.home hkN] at hg
      obtain ⟨y, hy⟩ := get_of_lt hkN
      rw [hy] at hg
      rw [getD_of hg, hy]
end
end Go.Proofs.YtjajenkagcdhlaaGreat
/- For lariatlaw6.VaultTurned: whatever is laid on a drum is sealed. -/
namespace Go.Proofs.YtjajenkagcdhlaaGreat
open Go.RowKit
set_option maxRecDepth 100000

theorem right_zeros : right (zeros 96) := ⟨by decide +kernel, by decide +kernel⟩
def SealD (D : DS) : Prop := (∀ b ∈ D.T, right b) ∧ ∀ x ∈ D.A, right x.2
def SealW (ws : Wri) : Prop := ∀ (k : Nat) b, ws[k]? = some (some b) → right b
def SealL (L : LS) : Prop := SealD L.D ∧ SealW L.ws
def Lays (ts : List Trn) : Prop := ∀ k b, Trn.lay k b ∈ ts → right b
theorem over_right {T : List (List Nat)} (h : ∀ b ∈ T, right b) : ∀ {A : List (Nat × List Nat)}, (∀ x ∈ A, right x.2) → ∀ b ∈ over T A, right b := fun {A} => by
  induction A generalizing T with
  | nil => intro _; exact h
  | cons x r ih =>
    intro hA
    refine ih (T := T.set x.1 x.2) (fun b hb => ?_) (fun y hy => hA y (List.mem_cons_of_mem _ hy))
    rcases List.mem_or_eq_of_mem_set hb with q | rfl
    · exact h b q
    · exact hA x List.mem_cons_self
theorem SealD.seen {D : DS} (h : SealD D) : ∀ b ∈ D.seen, right b := over_right h.1 h.2
theorem turned_TA (D : DS) : D.turned.T = D.T ∧ D.turned.A = D.A := by unfold DS.turned; split <;> exact ⟨rfl, rfl⟩
theorem SealD.step {D : DS} (h : SealD D) {t : Trn} (ht : ∀ k b, t = .lay k b → right b) : SealD (D.step t) := by
  obtain ⟨e1, e2⟩ := turned_TA D
  cases t with
  | lay k b =>
    show SealD (D.lay k b)
    unfold DS.lay
    split
    · refine ⟨by show ∀ b ∈ D.turned.T, right b; rw [e1]; exact h.1, fun x hx => ?_⟩
      rcases List.mem_append.1 hx with hx | hx
      · exact h.2 x hx
      · rw [List.mem_singleton] at hx
        subst hx
        exact ht k b rfl
    · exact ⟨by rw [e1]; exact h.1, by rw [e2]; exact h.2⟩
  | settle =>
    show SealD D.settle
    unfold DS.settle
    split
    · exact ⟨h.seen, fun x hx => by cases hx⟩
    · exact ⟨by rw [e1]; exact h.1, by rw [e2]; exact h.2⟩
theorem SealD.run {D : DS} (h : SealD D) : ∀ {ts : List Trn}, Lays ts → SealD (D.run ts) := fun {ts} => by
  induction ts generalizing D with
  | nil => intro _; exact h
  | cons t r ih =>
    intro hL
    rw [DS.run_cons]
    exact ih (h.step fun k b e => hL k b (by rw [e]; exact List.mem_cons_self)) (fun k b hb => hL k b (List.mem_cons_of_mem _ hb))
theorem Lays.append {a b : List Trn} (h : Lays a) (k : Lays b) : Lays (a ++ b) := fun i x hx => by
  rcases List.mem_append.1 hx with q | q
  · exact h i x q
  · exact k i x q
theorem lays_home {l : Nat} : ∀ {ws : Wri} {k : Nat}, SealW ws → Lays (homeT l k ws)
  | [], _, _ => fun _ _ h => by cases h
  | none :: ws, k, h => lays_home (ws := ws) (k := k + 1) fun i b hi => h (i + 1) b (by simpa using hi)
  | some b :: ws, k, h => fun i x hx => by
    have hx : Trn.lay i x ∈ Trn.lay (2 + l + k) b :: homeT l (k + 1) ws := hx
    rcases List.mem_cons.1 hx with q | q
    · injection q with _ q
      rw [q]
      exact h 0 b rfl
    · exact lays_home (ws := ws) (k := k + 1) (fun i b hi => h (i + 1) b (by simpa using hi)) i x q
theorem lays_begin (r l : Nat) : Lays (beginT r l) := fun k b hb => by
  unfold beginT at hb
  simp only [List.mem_cons, List.not_mem_nil, or_false] at hb
  rcases hb with q | q | q
  · cases q
  · injection q with _ q
    rw [q]
    exact cover_right _ _
  · cases q
theorem lays_leaf : ∀ {ps : List (List Nat)} {k : Nat}, (∀ p ∈ ps, right p) → Lays (leafT k ps)
  | [], _, _ => fun _ _ h => by cases h
  | p :: ps, k, h => fun i x hx => by
    have hx : Trn.lay i x ∈ Trn.lay k p :: leafT (k + 1) ps := hx
    rcases List.mem_cons.1 hx with q | q
    · injection q with _ q
      rw [q]
      exact h p List.mem_cons_self
    · exact lays_leaf (ps := ps) (k := k + 1) (fun y hy => h y (List.mem_cons_of_mem _ hy)) i x q
theorem lays_found (l : Nat) : Lays (foundT l) := Lays.append (fun k b hb => by
  obtain ⟨i, _, e⟩ := List.mem_map.1 hb
  injection e with _ e
  rw [← e]
  exact right_zeros) (lays_begin 1 l)
theorem seal_none (n : Nat) : SealW (List.replicate n none) := fun k b h => by
  rw [List.getElem?_replicate] at h
  split at h
  · injection h with h; cases h
  · cases h
theorem seal_took {ws : Wri} (h : SealW ws) : ∀ {e : List Ent}, (∀ x ∈ e, right x.2) → SealW (took ws e) := fun {e} => by
  induction e generalizing ws with
  | nil => intro _; exact h
  | cons x r ih =>
    intro he
    refine ih (ws := ws.set x.1 (some x.2)) (fun k b hk => ?_) (fun y hy => he y (List.mem_cons_of_mem _ hy))
    by_cases e1 : x.1 = k
    · subst e1
      have hl : x.1 < ws.length := by have := lt_of_get hk; rwa [List.length_set] at this
      rw [List.getElem?_set_self hl] at hk
      injection hk with hk
      injection hk with hk
      subst hk
      exact he x List.mem_cons_self
    · rw [List.getElem?_set_ne e1] at hk
      exact h k b hk
theorem SealL.heed {L : LS} (h : SealL L) : SealL L.heed := by
  unfold LS.heed
  split
  · exact ⟨h.1, h.2⟩
  · exact h
theorem SealL.next {L : LS} (h : SealL L) : SealL L.next := by
  have hr : SealD (L.D.run L.nextT) := h.1.run (Lays.append (lays_home h.2) (lays_begin _ _))
  unfold LS.next
  simp only
  split
  · exact ⟨hr, h.2⟩
  · exact ⟨hr, seal_none _⟩
theorem SealL.settled {L : LS} (h : SealL L) : SealL { L with D := L.D.step .settle } := ⟨h.1.step (fun k b e => by cases e), h.2⟩
theorem SealL.balanced {L : LS} (h : SealL L) : SealL L.balanced := by
  unfold LS.balanced
  split
  · exact h.settled
  · exact h.settled.next
theorem SealL.layP {L : LS} (h : SealL L) {e : List Ent} (h96 : ∀ x ∈ e, x.2.length = 96) (h0 : 0 < e.length) (he : ∀ x ∈ e, right x.2) : SealL (L.layP e) := by
  have hr : SealD (L.D.run (leafT (2 + L.laid) (posting L.round (L.posts + 1) e))) := h.1.run (lays_leaf fun p hp => by
    unfold posting at hp
    obtain ⟨k, hk, rfl⟩ := List.mem_map.1 hp
    exact leaf_right h96 h0 (List.mem_range.1 hk))
  unfold LS.layP
  simp only
  split
  · exact ⟨hr, h.2⟩
  · exact ⟨hr, seal_took h.2 he⟩
theorem SealL.write {L : LS} (h : SealL L) {e : List Ent} (he : ∀ x ∈ e, right x.2) : SealL (L.write e) := by
  unfold LS.write
  split
  · rename_i hg
    have h96 : ∀ x ∈ e, x.2.length = 96 := fun x hx => (hg.1 x hx).2
    split
    · exact h
    · split
      · exact h
      · refine SealL.heed ?_
        unfold LS.post
        split
        · split
          · exact h.balanced
          · exact h.balanced.layP h96 hg.2.2 he
        · exact h.layP h96 hg.2.2 he
  · exact h
theorem SealL.balance {L : LS} (h : SealL L) : SealL L.balance := by
  unfold LS.balance
  split
  · exact h
  · exact h.balanced.heed
/-- What is opened is sealed, if what is read of the leaves is. -/
theorem SealD.openL {D : DS} (h : SealD D) {k : Nat} (hw : SealW (LS.counted D k).reads.ws) : SealL (openL D k) := SealL.next (L := (LS.counted D k).reads) ⟨h, hw⟩
theorem newL_seal {n l h : Nat} (hn : n = 2 + l + h) (hl : 5 ≤ l) (hh : 3 ≤ h) (hm : n ≤ 4096) : SealL (newL n l) := by
  have R := newD_rec hn hl (by omega) hm
  have h0 : SealD (DS.new n) := ⟨fun b hb => by rw [(List.mem_replicate.1 hb).2]; exact right_zeros, fun x hx => by cases hx⟩
  have h1 : SealD (newD n l) := h0.run (lays_found l)
  unfold newL
  refine h1.openL ?_
  have := R.reads (D := newD n l)
  rw [show (1 : Nat) = 1 % 2 from rfl, this]
  exact seal_none _
/-- What a ledger leaves that is closed. -/
theorem balanced_cls {L : LS} {l r : Nat} {N : Hom} {es : List (List Ent)} (h : LiveL L l r N es) (hr : r + 1 < 255) (hs : SealL L) : Cls L.balance.D.seen l r N es ∧ L.balance.D.A = [] := by
  obtain ⟨_, _, e⟩ := balance_live h hr
  have hb := balanced_live h hr
  have hS : L.balanced.D.seen = renewed L.D.seen l r (wrote N es) := by
    have hst := h.settled
    have hsn := (step_settle_seen h.quiet).1
    have e2 : L.balanced = ({ L with D := L.D.step .settle } : LS).next := by unfold LS.balanced; rw [show (L.D.step .settle).down = false from hst.quiet.down]; rfl
    rw [e2]
    obtain ⟨M, hM⟩ : ∃ M : LS, ({ L with D := L.D.step .settle } : LS) = M := ⟨_, rfl⟩
    rw [hM] at hst ⊢
    have eD : M.D = L.D.step .settle := by rw [← hM]
    have hta := hst.quiet.ta M.nextT
    have hq := hst.quiet.run M.nextT
    have hnt : M.nextT = homeT l 0 (wrote N es) ++ beginT (r + 1) l := by unfold LS.nextT; rw [hst.leaves, hst.round, hst.ws]
    rw [hnt] at hta
    rw [show M.D.ta = (M.D.T, M.D.A) from rfl, ideals_next, ← hnt] at hta
    have hT : (M.D.run M.nextT).T = renewed M.D.seen l r (wrote N es) := congrArg Prod.fst hta
    have hA : (M.D.run M.nextT).A = [] := congrArg Prod.snd hta
    rw [next_up hq.down]
    show (M.D.run M.nextT).seen = _
    unfold DS.seen
    rw [hA, hT, eD, hsn]
    rfl
  rw [e]
  exact ⟨⟨⟨L.D.seen, h.live.is, hS⟩, hr, hs.balanced.1.seen⟩, hb.2⟩
end Go.Proofs.YtjajenkagcdhlaaGreat
/- For lariatlaw6.VaultTurned: a ledger of which all is sealed; found, written, closed, opened. -/
namespace Go.Proofs.YtjajenkagcdhlaaGreat
open Go.RowKit
set_option maxRecDepth 100000

/-- A ledger that runs, no break being set; home is N; all is sealed. -/
def SailX (w0 : Fr) (lp d l h t : Nat) (N : Hom) (w : World) : Prop := ∃ g b L r es, LAt w0 lp d b g L w ∧ LiveL L l r N es ∧ SealL L ∧ N.length = h ∧ r ≤ 2 + t ∧ es.length ≤ t ∧ L.D.turns ≤ 1000 + t * 300
/-- A drum on which one was closed. -/
def ClsAt (w0 : Fr) (d l : Nat) (N : Hom) (w : World) : Prop := ∃ b D r es, St w0 d b D w ∧ Quiet D ∧ Cls D.seen l r N es ∧ D.turns ≤ 20000
section
variable {w0 : Fr} {w w' : World} {lp d l h t : Nat} {N : Hom}
theorem SailX.old (x : SailX w0 lp d l h t N w) (m : Old w w') : SailX w0 lp d l h t N w' := by
  obtain ⟨g, b, L, r, es, h1, h2⟩ := x
  exact ⟨g, b, L, r, es, h1.step m, h2⟩
theorem SailX.old0 (x : SailX w0 lp d l h t N w) : Old w0.w w := by
  obtain ⟨g, b, L, r, es, h1, h2⟩ := x
  exact h1.st.old
theorem SailX.len (x : SailX w0 lp d l h t N w) : N.length = h := by
  obtain ⟨g, b, L, r, es, h1, h2, h3, h4, _⟩ := x
  exact h4
theorem SailX.head (x : SailX w0 lp d l h t N w) : ∃ g L, Blk w lp 129 (lhead d g L) ∧ L.ws.length = h ∧ L.lost = false := by
  obtain ⟨g, b, L, r, es, h1, h2, h3, h4, _⟩ := x
  exact ⟨g, L, h1.head, by rw [h2.hlen, h4], h2.lost⟩
theorem SailX.okL (x : SailX w0 lp d l h t N w) (ht : t ≤ 300) (h0 : 0 < h) (hm : h ≤ 120) : OkL lp N w := by
  have hlen := x.len
  refine ⟨by omega, by omega, ?_, ?_, fun w1 o k bs hk => ?_⟩
  · obtain ⟨g, b, L, r, es, h1, h2, h3, h4, _⟩ := x
    exact ⟨d, g, L, h1.head, by rw [h2.hlen]⟩
  · obtain ⟨g, b, L, r, es, h1, h2, h3, h4, _⟩ := x
    exact h2.live.is.htrk
  · obtain ⟨g, b, L, r, es, h1, h2, h3, h4, h5, h6, h7⟩ := x.old o
    have hok := h2.ok (by omega)
    have hws : L.ws.length = h := by rw [h2.hlen, h4]
    have hkl := lt_of_get hk
    have e1 := h2.home (k := k) hkl
    rw [hk] at e1
    injection e1 with e1
    rw [e1]
    exact look_home h1 hok h2.lost h2.quiet.down k (by rw [hws, ← h4]; exact hkl)
theorem sailx_new {g n : Nat} {b : Bl} (hn : n = 2 + l + h) (hl : 5 ≤ l) (hh : 3 ≤ h) (hm : n ≤ 120) (A : LAt w0 lp d b g (newL n l) w) : SailX w0 lp d l h 0 (zeroH h) w := by
  obtain ⟨F, Lv, hA⟩ := newL_live hn hl hh (by omega)
  have ht := newL_turns (n := n) (l := l) (by omega) (by omega)
  exact ⟨g, b, _, 2, [], A, Lv, newL_seal hn hl hh (by omega), by simp [zeroH], Nat.le_refl _, Nat.zero_le _, by omega⟩
theorem sailx_write (x : SailX w0 lp d l h t N w) (ht : t ≤ 200) (hl : 2 + l + h ≤ 120) (a : Option Addr) (e : List Ent) (len cap : Nat) (En : Ents w a e) (hlen : e.length = len) (hlm : len ≤ 60) (hT : ∀ x ∈ e, Trk x.2) (hR : ∀ x ∈ e, right x.2) :
    Calls Tryz.prog 44 #[.pointer (some ⟨lp, 0, none⟩), .slice a len cap] w fun y w' => ∃ E : Nat, y = .returned (.int .i64 (E : Int)) ∧ KeptL w w' ∧ ((E = 1 ∧ ¬ Goes e h ∧ SailX w0 lp d l h t N w') ∨ (E = 5 ∧ l < leavesOf len ∧ SailX w0 lp d l h t N w') ∨ (E = 0 ∧ Goes e h ∧ SailX w0 lp d l h (t + 1) (tookH N e) w')) := by
  obtain ⟨g, b, L, r, es, h1, h2, h3, h4, h5, h6, h7⟩ := x
  have hok := h2.ok (by omega)
  have hws : L.ws.length = h := by rw [h2.hlen, h4]
  have hwt := write_turns L e
  rw [hws, hlen] at hwt
  have hle := leavesOf_le len
  have a1 := h2.round
  have a2 := h2.count
  refine (write_any h1 hok (by rw [a1]; omega) (by rw [a2]; omega) (by omega) a e len cap En hlen (by omega)).mono ?_
  rintro y w' ⟨rfl, M⟩
  obtain ⟨b', A'⟩ := M.1
  refine ⟨_, rfl, M.2.1, ?_⟩
  rcases write_live h2 (by omega) hT with ⟨e1, e2, e3⟩ | ⟨e1, e2, e3, e4⟩ | ⟨e1, e3, r', es', q1, q2, q3⟩
  · rw [e2] at A'
    exact .inl ⟨e1, by rw [← h4]; exact e3, g, b', L, r, es, A', h2, h3, h4, h5, h6, h7⟩
  · rw [e2] at A'
    exact .inr (.inl ⟨e1, by rw [← hlen]; exact e4, g, b', L, r, es, A', h2, h3, h4, h5, h6, h7⟩)
  · exact .inr (.inr ⟨e1, by rw [← h4]; exact e3, g, b', _, r', es', A', q3, h3.write hR, by rw [tookH_length, h4], by omega, by omega, by omega⟩)
theorem sailx_balance (x : SailX w0 lp d l h t N w) (ht : t ≤ 60) (hl : 2 + l + h ≤ 120) : Calls Tryz.prog 58 #[.pointer (some ⟨lp, 0, none⟩)] w fun y w' => y = .returned (.int .i64 0) ∧ KeptL w w' ∧ SailX w0 lp d l h (t + 1) N w' ∧ ClsAt w0 d l N w' := by
  obtain ⟨g, b, L, r, es, h1, h2, h3, h4, h5, h6, h7⟩ := x
  have hok := h2.ok (by omega)
  have hws : L.ws.length = h := by rw [h2.hlen, h4]
  have htu := balance_turns L
  refine (lbalance_any h1 hok (by omega)).mono ?_
  rintro y w' ⟨rfl, M⟩
  obtain ⟨b', A'⟩ := M.1
  obtain ⟨e1, e2, e3⟩ := balance_live h2 (by omega)
  obtain ⟨c, _⟩ := balanced_cls h2 (by omega) h3
  refine ⟨by rw [e1]; rfl, M.2.1, ⟨g, b', _, r + 1, [], A', e2, h3.balance, h4, by omega, by simp, by omega⟩, b', _, r, es, A'.st, e2.quiet, c, by omega⟩
theorem sailx_open (x : SailX w0 lp d l h t N w) (ht : t ≤ 200) (hl : 2 + l + h ≤ 120) : Calls Tryz.prog 47 #[.pointer (some ⟨d, 0, none⟩)] w fun y w' => ∃ mp, y = .returned (.tuple #[.pointer (some ⟨mp, 0, none⟩), .int .i64 0]) ∧ SailX w0 mp d l h (t + 1) N w' ∧ KeptL w w' := by
  obtain ⟨g, b, L, r, es, h1, h2, h3, h4, h5, h6, h7⟩ := x
  obtain ⟨e1, e2, e3, e4, e5⟩ := open_live h2.quiet h2.live.is (by omega)
  have hTl : L.D.T.length = 2 + l + N.length := by rw [← DS.seen_length]; exact h2.live.is.len
  have htn := openL_turns (D := L.D) (k := r % 2)
  have hrd := h2.live.is.reads
  refine (open_any h1.st (by omega)).mono ?_
  rintro y w' ⟨K, _, ⟨b', _, hne, _⟩ | ⟨k, mp, g', b', hk, _, _, rfl, A'⟩⟩
  · exact absurd e2 hne
  · obtain rfl : r % 2 = k := by rw [e1] at hk; injection hk
    refine ⟨mp, rfl, ⟨g', b', _, r + 1, [], A', e4, h3.1.openL ?_, h4, by omega, by simp, by omega⟩, K⟩
    rw [hrd]
    have := h2.ws
    have h8 := h3.2
    rw [this] at h8
    exact h8
end
section
variable {w : World} {d n l h : Nat} {w0 : Fr} {b : Bl}
set_option maxHeartbeats 3200000 in
theorem vfoundx_any (S : St w0 d b (DS.new n) w) (hn : n = 2 + l + h) (hl : 5 ≤ l) (hh : 3 ≤ h) (hm : n ≤ 120) : Calls Tryz.prog 37 #[.pointer (some ⟨d, 0, none⟩), .int .i64 (l : Int)] w fun y w' =>
    y = .returned (.int .i64 0) ∧ KeptL w w' ∧ ∃ lp, SailX w0 lp d l h 2 (home0 h) w' := by
  obtain ⟨F, Lv, hA⟩ := newL_live hn hl hh (by omega)
  have hT : (DS.new n).T.length = n := by simp [DS.new]
  have HF := Lib.hid (found_any S (by show 0 ≤ 90000; omega) l (by rw [hT]; exact F.fits))
  have hb : ((DS.new n).run (foundT l)).bad = 0 := F.bad
  rw [hb] at HF
  have HFs := Lib.hid F
  have HNw : Hid (∀ w' lp b g, LAt w0 lp d b g (newL n l) w' → SailX w0 lp d l h 0 (zeroH h) w') := fun w' lp b g A => sailx_new hn hl hh hm A
  have hl2 : 2 + l + h ≤ 120 := by omega
  clear F Lv hA hT hb S
  go_enter Tryz.func37, Tryz.ntmps37
  go_wp2_with fail
  refine HF.out.mono ?_
  rintro y w1 ⟨rfl, ⟨b1, S1⟩, K1, _⟩
  have HK1 := Lib.hid (KeptL.of_kept K1)
  have HO := Lib.hid (open_any S1 (by have h1 := DS.run_turns (DS.new n) (foundT l); rw [show (foundT l).length = l + 5 by simp [foundT, beginT]; omega, show (DS.new n).turns = 0 from rfl] at h1; omega))
  clear S1 K1 HF
  go_wp2_with fail
  refine HO.out.mono ?_
  rintro y w2 ⟨K2, _, ⟨b2, _, hne, _⟩ | ⟨k, lp, g2, b2, hk, _, _, rfl, A2⟩⟩
  · exact absurd HFs.out.opens hne
  have hk1 : k = 1 := by
    have := HFs.out.cover
    unfold newD at this
    rw [this] at hk
    injection hk with hk
    exact hk.symm
  subst hk1
  have HS2 := Lib.hid (HNw.out w2 lp b2 g2 A2)
  have HK2 := Lib.hid (HK1.out.trans K2)
  clear A2 K2 HO HK1 hk HNw
  go_upto_region 8 with (first
    | (with_reducible refine wpList_build_places (op := ⟨some 24, _, _, _, _, _⟩) rfl rfl ?_)
    | ((with_reducible refine wpList_box_places (op := ⟨some 25, _, _, _, _, _⟩) rfl (.tmp 24) rfl noPlaces rfl ?_)
       have OA : Old w2 (w2.alloc (.cells noPlaces.toArray 71)) := (Touch.refl _ w2).alloc _
       have KA := Blk.new w2 71 noPlaces
       have HLr := Lib.hid (layRoot_any w2.heap.size 0 ps0 _ ((pv0 _).at_ (A := []) (B := []) (by simpa using KA)) rfl (fun ks hks => by
         have := (List.mem_replicate.1 hks).2
         subst this
         decide))
       have HOA := Lib.hid OA
       clear OA KA)
    | ((with_reducible refine HLr.out.mono ?_); rintro y w4 ⟨g4, rfl, hg4, Ow4, O4⟩
       have HOw := Lib.hid Ow4
       have HO4 := Lib.hid (HOA.out.trans O4)
       clear hg4 Ow4 O4))
  have O5 : Old w4 (w4.alloc (.cells #[Value.int .i64 0, .slice (some ⟨g4, 0, none⟩) 96 96] 115)) := (Touch.refl _ w4).alloc _
  have K5 := Blk.new w4 115 [Value.int .i64 0, .slice (some ⟨g4, 0, none⟩) 96 96]
  have HS5 := Lib.hid (HS2.out.old (HO4.out.trans O5))
  have hTr : Trk (rootPage ps0) := rootPage_trk rfl
  have En : Ents (w4.alloc (.cells #[Value.int .i64 0, .slice (some ⟨g4, 0, none⟩) 96 96] 115)) (some ⟨w4.heap.size, 0, none⟩) [(0, rootPage ps0)] := Ents.one (k := 0) hTr.len K5 (Nat.le_refl _) (HOw.out.byt.old O5)
  have hGo : Goes [(0, rootPage ps0)] h := by
    refine ⟨fun x hx => ?_, by simp, by decide⟩
    rw [List.mem_singleton] at hx
    subst hx
    exact ⟨by show 0 < h; omega, hTr.len⟩
  have HW := Lib.hid (sailx_write HS5.out (by omega) hl2 _ [(0, rootPage ps0)] 1 1 En rfl (by omega) (fun x hx => by rw [List.mem_singleton] at hx; subst hx; exact hTr) (fun x hx => by rw [List.mem_singleton] at hx; subst hx; exact right_track (by rw [rootText_length rfl]; exact Nat.le_refl _)))
  have HGo := Lib.hid hGo
  have HO5 := Lib.hid (HO4.out.trans O5)
  clear O5 K5 En hTr hGo HO4 HOw HOA HS5
  refine HW.out.mono ?_
  rintro y w6 ⟨E, rfl, K6, hWr⟩
  have hE : E = 0 ∧ SailX w0 lp d l h 1 (home0 h) w6 := by
    rcases hWr with ⟨_, q, _⟩ | ⟨_, q, _⟩ | ⟨q, _, S6⟩
    · exact absurd HGo.out q
    · have : leavesOf 1 = 2 := by decide
      omega
    · exact ⟨q, S6⟩
  obtain ⟨rfl, S6⟩ := hE
  have HBa := Lib.hid (sailx_balance S6 (by omega) hl2)
  have HK6 : Hid (KeptL w w6) := (HK2.out.trans (KeptL.of_old HO5.out)).trans K6
  clear S6 K6 hWr HW HS2
  go_wp2_with (first
    | ((with_reducible refine HBa.out.mono ?_); rintro y w7 ⟨rfl, K7, S7, _⟩
       have HS7 := Lib.hid S7
       have HK7 := Lib.hid (HK6.out.trans K7)
       clear S7 K7))
  go_ret
  exact ⟨rfl, HK7.out, lp, HS7.out⟩
end
end Go.Proofs.YtjajenkagcdhlaaGreat
/- For lariatlaw6.VaultTurned: the law's vault on a ledger of which all is sealed. -/
namespace Go.Proofs.YtjajenkagcdhlaaGreat
open Go.RowKit
set_option maxRecDepth 100000

section
variable {w0 : World} {w w' : World} {vp lp d x x' l h t : Nat} {bs bs' vs : List Value} {N : Hom}
theorem SailX.vt (A : SailX ⟨w0, [(x, bs)]⟩ lp d l h t N w) (T : Touch (fun i => i = vp ∨ i = x) w w') (hv : Blk w vp 74 vs) (n1 : w0.heap.size ≤ vp) (n2 : w0.heap.size ≤ x) (hx : x' = x ∨ w.heap.size ≤ x') (hb : Blk w' x' 120 bs') : SailX ⟨w0, [(x', bs')]⟩ lp d l h t N w' := by
  obtain ⟨g, b, L, r, es, h1, h2⟩ := A
  exact ⟨g, b, L, r, es, h1.vt T hv n1 n2 hx hb, h2⟩
theorem SailX.aside (A : SailX ⟨w0, []⟩ lp d l h t N w) (o : Old w w') (hx : w.heap.size ≤ x') (hb : Blk w' x' 120 bs') : SailX ⟨w0, [(x', bs')]⟩ lp d l h t N w' := by
  obtain ⟨g, b, L, r, es, h1, h2⟩ := A
  exact ⟨g, b, L, r, es, h1.aside o hx hb, h2⟩
theorem SailX.bare {X : List (Nat × List Value)} (A : SailX ⟨w0, X⟩ lp d l h t N w) : SailX ⟨w0, []⟩ lp d l h t N w := by
  obtain ⟨g, b, L, r, es, h1, h2⟩ := A
  exact ⟨g, b, L, r, es, h1.bare, h2⟩
theorem SailX.bq (A : SailX ⟨w0, [(x, bs)]⟩ lp d l h t N w) : Blk w x 120 bs := by
  obtain ⟨g, b, L, r, es, h1, h2⟩ := A
  exact (h1.st.aside (x, bs) (List.mem_singleton.2 rfl)).1
theorem ClsAt.bare {X : List (Nat × List Value)} (A : ClsAt ⟨w0, X⟩ d l N w) : ClsAt ⟨w0, []⟩ d l N w := by
  obtain ⟨b, D, r, es, S, h⟩ := A
  exact ⟨b, D, r, es, S.base rfl (fun p hp => by cases hp), h⟩
theorem SailX.map {m : Nat} {fr : Fr} (A : SailX fr lp d l h t N w) (T : MapTurn m w w') (hn : fr.w.heap.size ≤ m) : SailX fr lp d l h t N w' := by
  obtain ⟨g, b, L, r, es, h1, h2⟩ := A
  exact ⟨g, b, L, r, es, h1.map T hn, h2⟩
end
/-- A law's vault. -/
structure Vx (w0 : World) (vp lp d x l h t : Nat) (N : Hom) (rs rk : Recs) (a : Places) (w : World) : Prop where
  sail : SailX ⟨w0, [(x, bud (h - 1 - sumT rs) (h - 1))]⟩ lp d l h t N w
  mem : VM w vp lp x h rs rk a
  holds : Holds N (layM rk a)
  nv : w0.heap.size ≤ vp
  nx : w0.heap.size ≤ x
  hh : h ≤ 60
  hl : 2 + l + h ≤ 120
section
variable {w0 w w' : World} {vp lp d x l h t : Nat} {N : Hom} {rs rk : Recs} {a : Places}
theorem Vx.old (v : Vx w0 vp lp d x l h t N rs rk a w) (o : Old w w') : Vx w0 vp lp d x l h t N rs rk a w' := ⟨v.sail.old o, v.mem.old o, v.holds, v.nv, v.nx, v.hh, v.hl⟩
theorem Vx.map {m : Nat} (v : Vx w0 vp lp d x l h t N rs rk a w) (T : MapTurn m w w') (hn : w0.heap.size ≤ m) : Vx w0 vp lp d x l h t N rs rk a w' := ⟨v.sail.map T hn, v.mem.map T, v.holds, v.nv, v.nx, v.hh, v.hl⟩
theorem Vx.turn (v : Vx w0 vp lp d x l h t N rs rk a w) {x' : Nat} {rs' : Recs} (m : VM w' vp lp x' h rs' rk a) (T : Touch (fun i => i = vp ∨ i = x) w w') (hx : x' = x ∨ w.heap.size ≤ x') : Vx w0 vp lp d x' l h t N rs' rk a w' := by
  obtain ⟨vs, hb⟩ := v.mem.blk
  refine ⟨v.sail.vt T hb v.nv v.nx hx m.bq, m, v.holds, v.nv, ?_, v.hh, v.hl⟩
  rcases hx with rfl | hx
  · exact v.nx
  · have := v.sail.old0.size
    have : w0.heap.size ≤ w.heap.size := this
    omega
theorem Vx.put (v : Vx w0 vp lp d x l h t N rs rk a w) {mp : Nat} {ms : Recs} (M : VMap mp ms w) (k : Nat) (h1 : 1 ≤ k) (h40 : k ≤ 40) (p : Option Addr) (b : List Nat) (n c : Nat) (hB : Has w p b) (hn : b.length = n) (hm : n ≤ 60000) :
    Calls Tryz.prog 21 #[.pointer (some ⟨vp, 0, none⟩), .int .i64 (k : Int), .slice p n c] w fun y w' => Old w0 w' ∧ VMap mp ms w' ∧
      ((y = .returned (.int .i64 3) ∧ Vx w0 vp lp d x l h t N rs rk a w') ∨ (y = .returned (.int .i64 0) ∧ Vx w0 vp lp d x l h t N (rs.set k (some b)) rk a w')) := by
  obtain ⟨g, L, hL, hh, hl⟩ := v.sail.head
  refine (vput_any0 v.mem hL hl k h1 h40 p b n c hB hn hm).mono ?_
  rintro y w' ⟨T, hor⟩
  obtain ⟨vs, hb⟩ := v.mem.blk
  have hM : VMap mp ms w' := M.touch T fun e => by
    rcases e with e | e
    · exact M.ne hb e.symm
    · exact M.ne v.sail.bq e.symm
  refine ⟨Touch.onto v.sail.old0 T (fun k hk => by
    rcases hk with rfl | rfl
    · exact v.nv
    · exact v.nx), hM, ?_⟩
  rcases hor with ⟨rfl, _, m⟩ | ⟨rfl, _, m⟩
  · exact .inl ⟨rfl, v.turn m T (.inl rfl)⟩
  · exact .inr ⟨rfl, v.turn m T (.inl rfl)⟩
theorem Vx.keep (v : Vx w0 vp lp d x l h t N rs rk a w) (ht : t ≤ 200) : Calls Tryz.prog 13 #[.pointer (some ⟨vp, 0, none⟩)] w fun y w' => KeptV w w' ∧
    ((y = .returned (.int .i64 0) ∧ ∃ N' a', Vx w0 vp lp d x l h (t + 1) N' rs rs a' w') ∨ (y = .returned (.int .i64 5) ∧ Old w0 w')) := by
  obtain ⟨g, L, hL, hh, hlo⟩ := v.sail.head
  have hN := v.sail.len
  have vld' : Vld rs (placeM rs a h) h := place_vld v.mem.rok v.mem.vld.plOk v.mem.fit
  have hlen : (turnedM rs rk a h).length ≤ 60 := by
    have h1 := vld'.others_length (layW rk a h)
    have h2 := v.mem.fit
    have h3 := v.hh
    show (othersM _ _).length ≤ 60
    omega
  have hTr : ∀ y ∈ turnedM rs rk a h, Trk y.2 := fun y hy => layM_trk vld' y (others_mem vld' hy)
  have hRi : ∀ y ∈ turnedM rs rk a h, right y.2 := fun y hy => layM_right vld' y (others_mem vld' hy)
  refine (vkeep_any v.mem hL hh (fun E w2 => (E = 1 ∧ ¬ Goes (turnedM rs rk a h) h ∧ SailX ⟨w0, [(x, bud (h - 1 - sumT rs) (h - 1))]⟩ lp d l h t N w2) ∨ (E = 5 ∧ SailX ⟨w0, [(x, bud (h - 1 - sumT rs) (h - 1))]⟩ lp d l h t N w2) ∨ (E = 0 ∧ SailX ⟨w0, [(x, bud (h - 1 - sumT rs) (h - 1))]⟩ lp d l h (t + 1) (tookH N (turnedM rs rk a h)) w2)) (fun w1 o p c En hc => ?_)).mono ?_
  · refine (sailx_write (v.sail.old o) ht v.hl p (turnedM rs rk a h) _ c En rfl hlen hTr hRi).mono ?_
    rintro y w2 ⟨E, rfl, K, W⟩
    rcases W with ⟨rfl, hg, S⟩ | ⟨rfl, _, S⟩ | ⟨rfl, _, S⟩
    · obtain ⟨g, L, hL, hh, _⟩ := S.head
      exact ⟨1, rfl, K, ⟨d, g, L, hL, hh⟩, S.bq, by omega, .inl ⟨rfl, hg, S⟩⟩
    · obtain ⟨g, L, hL, hh, _⟩ := S.head
      exact ⟨5, rfl, K, ⟨d, g, L, hL, hh⟩, S.bq, by omega, .inr (.inl ⟨rfl, S⟩)⟩
    · obtain ⟨g, L, hL, hh, _⟩ := S.head
      exact ⟨0, rfl, K, ⟨d, g, L, hL, hh⟩, S.bq, by omega, .inr (.inr ⟨rfl, S⟩)⟩
  · rintro y w' (⟨h0, rfl, o, m⟩ | ⟨hne, E, w1, w2, rfl, o, K, W, T, hm⟩)
    · have h0' : othersM (layW rk a N.length) (layW rs (placeM rs a h) N.length) = [] := by rw [hN]; exact h0
      obtain ⟨e, _⟩ := same_laid (N := N) (by rw [hN]; have := v.hh; omega) (by rw [hN]; exact v.mem.vld) (by rw [hN]; exact vld') v.holds h0'
      subst e
      obtain ⟨g2, b2, L2, r2, es2, q1, q2, q3, q4, q5, q6, q7⟩ := v.sail.old o
      exact ⟨KeptV.of_old o, .inl ⟨rfl, N, a, ⟨⟨g2, b2, L2, r2, es2, q1, q2, q3, q4, by omega, by omega, by omega⟩, v.mem.old o, v.holds, v.nv, v.nx, v.hh, v.hl⟩⟩⟩
    · obtain ⟨vs, hb⟩ := v.mem.blk
      have hb2 : Blk w2 vp 74 vs := K.blk _ _ _ (by unfold otherL other; decide) (hb.touch o (fun q => q))
      have T2 : Touch (fun i => i = vp ∨ i = x) w2 w' := T.mono fun i _ hi => .inl hi
      have hx2 : Blk w2 x 120 (bud (h - 1 - sumT rs) (h - 1)) := by
        rcases W with ⟨_, _, S⟩ | ⟨_, S⟩ | ⟨_, S⟩
        · exact S.bq
        · exact S.bq
        · exact S.bq
      refine ⟨((KeptV.of_old o).trans (KeptV.of_kept K)).trans (KeptV.of_touch T2 hb2 hx2), ?_⟩
      rcases hm with ⟨rfl, m⟩ | ⟨rfl, x', hx', m⟩ | ⟨hE0, hE5, m⟩
      · rcases W with ⟨q, _⟩ | ⟨q, _⟩ | ⟨_, S⟩
        · cases q
        · cases q
        · have hHo : Holds (tookH N (turnedM rs rk a h)) (layM rs (placeM rs a h)) := by
            have := keep_holds (N := N) (rs := rk) (a := a) (rs' := rs) (a' := placeM rs a h) (by rw [hN]; exact v.mem.vld) (by rw [hN]; exact vld') v.holds
            rw [hN] at this
            exact this
          exact .inl ⟨rfl, _, _, ⟨S.vt T2 hb2 v.nv v.nx (.inl rfl) m.bq, m, hHo, v.nv, v.nx, v.hh, v.hl⟩⟩
      · rcases W with ⟨q, _⟩ | ⟨_, S⟩ | ⟨q, _⟩
        · cases q
        · exact .inr ⟨rfl, Touch.onto S.old0 T (fun k hk => by rw [show k = vp from hk]; exact v.nv)⟩
        · cases q
      · rcases W with ⟨_, hng, _⟩ | ⟨q, _⟩ | ⟨q, _⟩
        · exact absurd (others_goes vld' hne) hng
        · exact absurd q hE5
        · exact absurd q hE0
theorem Vx.close (v : Vx w0 vp lp d x l h t N rs rk a w) (ht : t ≤ 60) : Calls Tryz.prog 27 #[.pointer (some ⟨vp, 0, none⟩)] w fun y w' => y = .returned (.int .i64 0) ∧ KeptV w w' ∧ ClsAt ⟨w0, []⟩ d l N w' := by
  refine vclose_any v.mem.lp0 ((sailx_balance v.sail ht v.hl).mono ?_)
  rintro y w' ⟨rfl, K, _, C⟩
  exact ⟨⟨_, rfl⟩, rfl, KeptV.of_kept K, C.bare⟩
theorem vx_opened {H : Hom} {w1 : World} (S : SailX ⟨w0, []⟩ lp d l h t H w1) (m : VM w' vp lp x H.length rs rs a) (o : Old w1 w') (hR : Reading H rs a) (n1 : w1.heap.size ≤ vp) (n2 : w1.heap.size ≤ x) (h0 : 0 < h) (hh : h ≤ 60) (hl : 2 + l + h ≤ 120) (hT : ∀ b ∈ H, Trk b) : Vx w0 vp lp d x l h t H rs rs a w' := by
  have hlen := S.len
  have hv := hR.vld hT (by omega)
  rw [hlen] at m
  have hs : w0.heap.size ≤ w1.heap.size := S.old0.size
  exact ⟨S.aside o n2 m.bq, m, hv.2, by omega, by omega, hh, hl⟩
theorem vx_first {lp : Nat} {N : Hom} {rk : Recs} {ak : Places} (S : SailX ⟨w0, []⟩ lp d l h t N w) (ht : t ≤ 200) (h0 : 0 < h) (hh : h ≤ 60) (hl : 2 + l + h ≤ 120) (v : Vld rk ak h) (hho : Holds N (layM rk ak)) :
    Calls Tryz.prog 17 #[.pointer (some ⟨d, 0, none⟩)] w fun y w' => ∃ vp lp x, y = .returned (.tuple #[.pointer (some ⟨vp, 0, none⟩), .int .i64 0]) ∧ Vx w0 vp lp d x l h (t + 1) N rk rk ak w' ∧ KeptV w w' := by
  refine (vopen_any _ w (fun _ _ => False) (fun lp H w1 => H = N ∧ SailX ⟨w0, []⟩ lp d l h (t + 1) H w1 ∧ KeptL w w1 ∧ ∀ b ∈ H, Trk b) ?_).mono ?_
  · refine (sailx_open S ht hl).mono ?_
    rintro y w1 ⟨mp, rfl, S, K⟩
    have ok := S.okL (by omega) h0 (by omega)
    exact .inr ⟨mp, _, rfl, ok, rfl, S, K, ok.trk⟩
  · have hN := S.len
    have hRd : Reading N rk ak := reading_all (by rw [hN]; omega) (by rw [hN]; exact v) hho
    rintro y w' (⟨_, _, _, q⟩ | ⟨lp, H, w1, ⟨rfl, S, K, hT⟩, ok, o, ⟨_, hno⟩ | ⟨vp, x, rs, a', hR, rfl, m, n1, n2⟩⟩)
    · exact q.elim
    · exact absurd hRd (hno _ _)
    · obtain ⟨rfl, rfl⟩ := reading_one hR hRd
      exact ⟨vp, lp, x, rfl, vx_opened S m o hR n1 n2 h0 hh hl hT, (KeptV.of_kept K).trans (KeptV.of_old o)⟩
theorem Vx.open_ (v : Vx w0 vp lp d x l h t N rs rk a w) (ht : t ≤ 200) (h0 : 0 < h) : Calls Tryz.prog 17 #[.pointer (some ⟨d, 0, none⟩)] w fun y w' => ∃ vp lp x, y = .returned (.tuple #[.pointer (some ⟨vp, 0, none⟩), .int .i64 0]) ∧ Vx w0 vp lp d x l h (t + 1) N rk rk a w' ∧ KeptV w w' :=
  vx_first v.sail.bare ht h0 v.hh v.hl v.mem.vld v.holds
end
section
variable {w0 w : World}
theorem lfoundx_any (o : Old w0 w) {n l h : Nat} (hn : n = 2 + l + h) (hl : 5 ≤ l) (hh : 3 ≤ h) (h60 : h ≤ 60) (hm : n ≤ 120) : Calls Tryz.prog 10 #[.int .i64 (n : Int), .int .i64 (l : Int)] w fun y w' =>
    ∃ vp lp d x, y = .returned (.tuple #[.pointer (some ⟨vp, 0, none⟩), .pointer (some ⟨d, 0, none⟩)]) ∧ Vx w0 vp lp d x l h 3 (home0 h) rs0 rs0 ps0 w' ∧ KeptV w w' := by
  have HN := Lib.hid (new_st (w0 := ⟨w0, []⟩) n (by omega) (by omega) o (fun p hp => by cases hp))
  have Hn := Lib.hid hn
  clear o hn
  go_enter Tryz.func10, Tryz.ntmps10
  go_wp2_with fail
  refine HN.out.mono ?_
  rintro y w1 ⟨d, b, rfl, S1, O1⟩
  have HF := Lib.hid (vfoundx_any S1 Hn.out hl hh hm)
  have HK1 := Lib.hid (KeptV.of_old O1)
  clear S1 O1 HN
  go_wp2_with fail
  refine HF.out.mono ?_
  rintro y w2 ⟨rfl, K2, lp0, S2⟩
  have HO := Lib.hid (vx_first S2 (by omega) (by omega) h60 (by have := Hn.out; omega) (rs0_vld (by omega)) (home0_holds (by omega)))
  have HK2 := Lib.hid (HK1.out.trans (KeptV.of_kept K2))
  clear S2 K2 HF HK1
  go_wp2_with fail
  refine HO.out.mono ?_
  rintro y w3 ⟨vp, lp, x, rfl, V3, K3⟩
  have HV := Lib.hid V3
  have HK3 := Lib.hid (HK2.out.trans K3)
  clear V3 K3 HO HK2
  go_wp2_with fail
  go_ret2
  exact ⟨vp, lp, d, x, rfl, HV.out, HK3.out⟩
end
end Go.Proofs.YtjajenkagcdhlaaGreat
/- For lariatlaw6.VaultTurned: a closed drum of which a track is turned; the law's is of whatever is opened. -/
namespace Go.Proofs.YtjajenkagcdhlaaGreat
open Go.RowKit
set_option maxRecDepth 100000

theorem Vr.get2 {w0 w : World} {vp h : Nat} {rs : Recs} (f : Vr w0 vp h rs w) (k : Nat) (h1 : 1 ≤ k) (h40 : k ≤ 40) (b : List Nat) (hr : rs[k]? = some (some b)) : Calls Tryz.prog 32 #[.pointer (some ⟨vp, 0, none⟩), .int .i64 (k : Int)] w fun y w' => ∃ p c, y = .returned (.tuple #[.slice p b.length c, .bool true]) ∧ b.length ≤ c ∧ Byt w' p b ∧ (∀ g o, p = some ⟨g, o, none⟩ → w.heap.size ≤ g) ∧ Old w w' := by
  obtain ⟨lp, x, d, g, L, a, m, hL, hh, o0⟩ := f
  exact vget_any m k h1 h40 (some b) hr
set_option maxHeartbeats 6400000 in
theorem is_any2 {w0 w : World} {vp h mp : Nat} {rs m : Recs} (V : Vr w0 vp h rs w) (M : VMap mp m w) (ok : RsOk m) :
    Calls Tryz.prog 22 #[.pointer (some ⟨vp, 0, none⟩), .map (some mp)] w fun y w' => ∃ c, y = .returned (.bool c) ∧ (c = true ↔ rs = m) ∧ Old w w' := by
  have HV := Lib.hid V
  have HM := Lib.hid M
  have HK := Lib.hid ok
  have HRk := Lib.hid V.rok
  have HId := Lib.hid V.ids
  have hfit := V.few.1
  have hh60 := V.few.2
  clear V M ok
  go_enter Tryz.func22, Tryz.ntmps22
  go_wp2_with (first | ((with_reducible refine HId.out.mono ?_); rintro y w1 ⟨p, c, rfl, hc, Ii, O1⟩
                        have HIi := Lib.hid Ii
                        have HO1 := Lib.hid O1
                        clear Ii O1))
  obtain ⟨n, hn⟩ : ∃ n, cntR rs = n := ⟨_, rfl⟩
  have HN := Lib.hid hn
  rw [hn] at hc ⊢
  clear hn HId
  have hn41 : n ≤ 41 := by
    have h1 := cntR_le rs
    rw [HN.out, HRk.out.r41] at h1
    exact h1
  have HT0 : Hid (1 = 1 + takeIds rs ((idsTo rs 41).take 0)) := rfl
  have HS0 : Hid (SameTo rs m 0) := fun j k hj => absurd hj (Nat.not_lt_zero _)
  go_loopw [18, 6, 7, 8, 9, 10, 11] (fun iv tv _ _ _ _ _ wx => ∃ i t : Nat, iv = .int .i64 (i : Int) ∧ i ≤ n ∧ tv = .int .i64 (t : Int) ∧ Hid (t = 1 + takeIds rs ((idsTo rs 41).take i)) ∧ Hid (SameTo rs m i) ∧ Hid (Old w wx) ∧ Hid (Its wx p (idsTo rs 41))) (fun iv _ _ _ _ _ _ _ => 41 - (intOf iv).toNat)
  case atStart => exact ⟨0, 1, rfl, Nat.zero_le _, rfl, HT0, HS0, HO1, HIi⟩
  case round =>
    obtain ⟨i, t, rfl, hin, rfl, HT, HS, HO, HI⟩ := hrel
    clear HT0 HS0 HO1 HIi
    have hlen : Hid ((idsTo rs 41).length = n) := by show _ = _; rw [idsTo_all HRk.out.r41]; exact HN.out
    have htl : t ≤ 121 := by
      have h1 := sum_take_le rs (idsTo rs 41) i
      rw [takeIds_all HRk.out.r41] at h1
      have h2 := HT.out
      omega
    by_cases hlt : i < n
    · have i1 : (i : Int) < (n : Int) := by omega
      have i0 : (0 : Int) ≤ (i : Int) := by omega
      obtain ⟨k, hidk⟩ := get_of_lt (l := idsTo rs 41) (n := i) (by rw [hlen.out]; exact hlt)
      obtain ⟨b, hrk, k1, k40⟩ := ids_rec HRk.out (mem_of_get hidk)
      have hbl := (HRk.out.ok k b hrk)
      have HG : Hid (Calls Tryz.prog 32 #[.pointer (some ⟨vp, 0, none⟩), .int .i64 (k : Int)] wr fun y w' => ∃ p c, y = .returned (.tuple #[.slice p b.length c, .bool true]) ∧ b.length ≤ c ∧ Byt w' p b ∧ (∀ g o, p = some ⟨g, o, none⟩ → wr.heap.size ≤ g) ∧ Old wr w') := (HV.out.old HO.out).get2 k k1 k40 b hrk
      obtain ⟨bi, oi, rfl, hci⟩ := HI.out.cell hidk
      go_upto_region 7 with (first
        | ((with_reducible refine HG.out.mono ?_); rintro y w2 ⟨pb, cb, rfl, hcb, B2, _, O2⟩
           have HB2 := Lib.hid B2
           have HO2 := Lib.hid O2
           clear B2 O2 HG))
      have hci2 := (HO2.out.cell (p := ⟨bi, oi + i, none⟩) (lt_of_cell? hci) (fun q => q)).trans hci
      have hlo := (HM.out.old (HO.out.trans HO2.out)).look (k := k) (by omega)
      have hst := str_any w2 pb b b.length cb HB2.out.has rfl
      have Hrk := Lib.hid hrk
      have Hidk := Lib.hid hidk
      clear hci hrk hidk
      cases hmk : m.getD k none with
      | none =>
        rw [hmk] at hlo
        simp only [Option.isSome_none] at hlo
        have HF : Hid (Old w w2 ∧ ¬ rs = m) := ⟨HO.out.trans HO2.out, fun e => by
          rw [← e, getD_of Hrk.out] at hmk
          cases hmk⟩
        clear hmk hst
        go_upto_region 8 with fail
        go_quiet (fail)
        go_wp2_with fail
        go_ret
        exact ⟨false, rfl, ⟨fun e => (by cases e), fun e => absurd e HF.out.2⟩, HF.out.1.drewN nq⟩
      | some u =>
        rw [hmk] at hlo
        simp only [Option.isSome_some] at hlo
        have eu : bytesOf (some u) = u := rfl
        rw [eu] at hlo
        clear eu
        have hst : ∀ nd, (convert 30 9 (.slice pb b.length cb)).run Tryz.prog (w2.drewN nd) = .ok (.string (strOf b)) (w2.drewN nd) := fun nd => str_any (w2.drewN nd) pb b b.length cb (HB2.out.has.old ((Touch.refl _ w2).drewN nd)) rfl
        have hub := (HK.out.ok k u (getD_some hmk)).1
        have hcmp := str_beq hbl.1 hub
        have HS2 : Hid (b = u → SameTo rs m (i + 1)) := fun e j l hj hl => by
          by_cases e2 : j = i
          · subst e2
            rw [Hidk.out] at hl
            injection hl with hl
            subst hl
            rw [hmk, getD_of Hrk.out, e]
          · exact HS.out j l (by omega) hl
        have Htk : Hid (takeIds rs ((idsTo rs 41).take (i + 1)) = takeIds rs ((idsTo rs 41).take i) + takesN b.length) := by
          show _ = _
          rw [take_get Hidk.out, takeIds_append, takeIds_one, getD_of Hrk.out]
          rfl
        have hsum := sum_take_le rs (idsTo rs 41) (i + 1)
        rw [takeIds_all HRk.out.r41, Htk.out] at hsum
        have htk : t + takesN b.length ≤ 121 := by have := HT.out; omega
        have HTk := Lib.hid (takes_any b.length (by omega))
        have HT2 : Hid (t + takesN b.length = 1 + takeIds rs ((idsTo rs 41).take (i + 1))) := by
          show _ = _
          rw [Htk.out, HT.out]
          omega
        have hwt : IntKind.i64.wrap ((t : Int) + (takesN b.length : Int)) = (t : Int) + (takesN b.length : Int) := wrap_fits ⟨by omega, by omega⟩
        have hwi : IntKind.i64.wrap ((i : Int) + 1) = (i : Int) + 1 := wrap_fits ⟨by omega, by omega⟩
        clear hsum Htk HT HS
        go_upto_region 8 with fail
        by_cases hbu : b = u
        · subst hbu
          have hcmp2 : ((strOf b).toList == (strOf b).toList) = true := by rw [hcmp]; exact decide_eq_true rfl
          have HSn := Lib.hid (HS2.out rfl)
          have HO3 : Hid (∀ nd, Old w (w2.drewN nd)) := fun nd => (HO.out.trans HO2.out).drewN nd
          have HI3 : Hid (∀ nd, Its (w2.drewN nd) (some ⟨bi, oi, none⟩) (idsTo rs 41)) := fun nd => HI.out.old (HO2.out.drewN nd)
          clear hcmp HS2 hmk
          by_cases hi0 : i = 0
          · subst hi0
            go_quiet (fail)
            go_wp2_with (first | ((with_reducible refine (HTk.out _).mono ?_); rintro y w' ⟨rfl, rfl⟩))
            exact ⟨⟨1, t + takesN b.length, rfl, hlt, by go_num, HT2, HSn, HO3.out nq, HI3.out nq⟩, by simp [intOf]⟩
          · obtain ⟨j, hij⟩ : ∃ j, i = j + 1 := ⟨i - 1, by omega⟩
            obtain ⟨l, hidl⟩ := get_of_lt (l := idsTo rs 41) (n := j) (by rw [hlen.out]; omega)
            have hlk : l < k := ids_rising (by omega) hidl Hidk.out
            have hcj : w2.cell? ⟨bi, oi + j, none⟩ = some (.int .i64 (l : Int)) := by
              obtain ⟨b', o', e, hc'⟩ := (HI.out.old HO2.out).cell hidl
              cases e
              exact hc'
            have hwj : IntKind.i64.wrap ((i : Int) - 1) = (j : Int) := by rw [hij]; exact wrap_fits' (by omega) ⟨by omega, by omega⟩
            have g1 : (0 : Int) < (i : Int) := by omega
            have g0 : 0 < i := by omega
            have g01 : decide ((0 : Int) < (i : Int)) = true := decide_eq_true g1
            have g02 : decide (0 < i) = true := decide_eq_true g0
            have g2 : (0 : Int) ≤ (j : Int) := by omega
            have g3 : (j : Int) < (n : Int) := by omega
            have g4 : ¬ (k : Int) ≤ (l : Int) := by omega
            have g5 : decide ((k : Int) ≤ (l : Int)) = false := decide_eq_false g4
            have hciN : ∀ nd, (w2.drewN nd).cell? ⟨bi, oi + i, none⟩ = some (.int .i64 (k : Int)) := fun nd => hci2
            have hcjN : ∀ nd, (w2.drewN nd).cell? ⟨bi, oi + j, none⟩ = some (.int .i64 (l : Int)) := fun nd => hcj
            clear hidl hlk hij
            go_quiet (fail)
            go_wp2_with (first | ((with_reducible refine (HTk.out _).mono ?_); rintro y w' ⟨rfl, rfl⟩))
            exact ⟨⟨i + 1, t + takesN b.length, by go_num, hlt, by go_num, HT2, HSn, HO3.out nq, HI3.out nq⟩, by simp [intOf]; omega⟩
        · have HF : Hid (Old w w2 ∧ ¬ rs = m) := ⟨HO.out.trans HO2.out, fun e => by
            rw [← e, getD_of Hrk.out] at hmk
            injection hmk with hmk
            exact hbu hmk⟩
          rw [decide_eq_false hbu] at hcmp
          go_quiet (fail)
          go_wp2_with fail
          go_ret
          exact ⟨false, rfl, ⟨fun e => (by cases e), fun e => absurd e HF.out.2⟩, HF.out.1.drewN nq⟩
    · obtain rfl : i = n := by omega
      have i1 : ¬ (i : Int) < (i : Int) := by omega
      have HT1 : Hid (t = 1 + sumT rs) := by
        have h1 := HT.out
        rw [List.take_of_length_le (by rw [hlen.out]; exact Nat.le_refl _), takeIds_all HRk.out.r41] at h1
        exact h1
      have HA : Hid (∀ (k : Nat) b, rs[k]? = some (some b) → m[k]? = some (some b)) := fun k b hk => by
        have hk41 : k < 41 := by have := lt_of_get hk; rw [HRk.out.r41] at this; exact this
        obtain ⟨j, hj⟩ := List.getElem?_of_mem (mem_ids hk41 hk)
        have := HS.out j k (by have := lt_of_get hj; rw [hlen.out] at this; exact this) hj
        rw [getD_of hk] at this
        exact getD_some this
      have hdom := dom_eq (by rw [HRk.out.r41, HK.out.r41]) HA.out
      rw [HN.out] at hdom
      have hlenm := fun ty => (HM.out.old HO.out).len ty
      have HGe : Hid (Calls Tryz.prog 32 #[.pointer (some ⟨vp, 0, none⟩), .int .i64 41] wr fun y w' => y = .returned (.tuple #[.slice none 0 0, .bool false]) ∧ wr = w') := vget_no (some ⟨vp, 0, none⟩) wr 41 rfl (by intro e; cases e)
      have HFr := Lib.hid (HV.out.old HO.out).free
      have HTr := Lib.hid ((HV.out.old HO.out).tracks)
      have HRes : Hid (∀ c : Bool, (c = true ↔ i = cntR m) → (c = true ↔ rs = m)) := fun c hc => by
        rw [hc]
        constructor
        · exact fun e => hdom.2 e
        · intro e
          rw [← e]
          exact HN.out.symm
      have HOw := Lib.hid HO.out
      clear HT HS HI hdom HA
      have hfr2 : ((h - 1 - sumT rs : Nat) : Int) = (h : Int) - (t : Int) := by have := HT1.out; omega
      have hwh : IntKind.i64.wrap ((h : Int) - (t : Int)) = (h : Int) - (t : Int) := wrap_fits ⟨by omega, by omega⟩
      rw [hfr2] at HFr
      generalize cntR m = n2 at *
      by_cases hcm : i = n2
      · subst hcm
        clear hfr2 HT1
        go_wp2_with (first
          | ((with_reducible refine HGe.out.mono ?_); rintro y w' ⟨rfl, rfl⟩)
          | ((with_reducible refine HFr.out.mono ?_); rintro y w' ⟨rfl, rfl⟩)
          | ((with_reducible refine HTr.out.mono ?_); rintro y w' ⟨rfl, rfl⟩))
        go_ret
        exact ⟨true, rfl, HRes.out true (by simp), HOw.out⟩
      · have hcm2 : ((i : Int) == (n2 : Int)) = false := by simp only [beq_eq_false_iff_ne]; omega
        have hcm3 : ¬ (i : Int) = (n2 : Int) := by omega
        have HRf : Hid (false = true ↔ rs = m) := HRes.out false ⟨fun e => (by cases e), fun e => absurd e hcm⟩
        clear hfr2 HT1 HRes
        go_wp2_with (first
          | ((with_reducible refine HGe.out.mono ?_); rintro y w' ⟨rfl, rfl⟩)
          | ((with_reducible refine HFr.out.mono ?_); rintro y w' ⟨rfl, rfl⟩)
          | ((with_reducible refine HTr.out.mono ?_); rintro y w' ⟨rfl, rfl⟩))
        go_ret
        exact ⟨false, rfl, HRf.out, HOw.out⟩

/-- The track i of a closed drum is b. -/
def ClsD (w0 : World) (d l : Nat) (N : Hom) (i : Nat) (b : List Nat) (w : World) : Prop := ∃ bl D r es, St ⟨w0, []⟩ d bl D w ∧ Quiet D ∧ Cls D.seen l r N es ∧ D.turns ≤ 20000 ∧ D.seen[i]? = some b
/-- One track of it was turned, from K on. -/
def TurnedAt (w0 : World) (d l : Nat) (N : Hom) (K k : Nat) (w : World) : Prop := ∃ bl D r es T t b b', St ⟨w0, []⟩ d bl D w ∧ Quiet D ∧ Cls T l r N es ∧ T[t]? = some b ∧ Near b' b K ∧ Trk b' ∧ D.seen = T.set t b' ∧ D.turns ≤ 20000 + k
section
variable {w0 w w' wx : World} {d l K : Nat} {N : Hom}
theorem ClsD.old {i : Nat} {b : List Nat} (C : ClsD w0 d l N i b w) (o : Old w w') : ClsD w0 d l N i b w' := by
  obtain ⟨bl, D, r, es, S, h⟩ := C
  exact ⟨bl, D, r, es, S.step o, h⟩
theorem ClsAt.look (C : ClsAt ⟨w0, []⟩ d l N w) (i : Nat) (hi : i < 2 + l + N.length) : Calls Tryz.prog 28 #[.pointer (some ⟨d, 0, none⟩), .int .i64 (i : Int)] w fun y w' => ∃ g b, y = .returned (.tuple #[.slice (some ⟨g, 0, none⟩) 96 96, .int .i64 0]) ∧ w.heap.size ≤ g ∧ Own w' g b ∧ Trk b ∧ Old w w' ∧ ClsD w0 d l N i b w := by
  obtain ⟨bl, D, r, es, S, Q, c, ht⟩ := C
  obtain ⟨b, hb⟩ := get_of_lt (l := D.seen) (n := i) (by rw [c.len]; exact hi)
  have hT := c.trk b (mem_of_get hb)
  refine (look_st S i (by rw [← DS.seen_length, c.len]; exact hi) Q.down).mono ?_
  rintro y w' ⟨g, rfl, hg, B, O⟩
  rw [getD_of hb] at B
  exact ⟨g, b, rfl, hg, Own.of_blk hT.byte B, hT, O, bl, D, r, es, S, Q, c, ht, hb⟩
theorem ClsD.lay {i g c : Nat} {b xs : List Nat} (C : ClsD w0 d l N i b wx) (O : Old wx w) (hg : wx.heap.size ≤ g) (hO : Own w g xs) (hT : Trk xs) (hn : Near xs b K) :
    Calls Tryz.prog 29 #[.pointer (some ⟨d, 0, none⟩), .int .i64 (i : Int), .slice (some ⟨g, 0, none⟩) 96 c] w fun y w' => y = .returned (.int .i64 0) ∧ KeptV w w' ∧ TurnedAt w0 d l N K 1 w' := by
  obtain ⟨bl, D, r, es, S, Q, cl, ht, hb⟩ := C
  have nf : ¬ foot d bl g := fun q => by have := S.dr.at_.lt g q; omega
  have S' := S.step O
  have hi : i < D.T.length := by have := lt_of_get hb; rwa [DS.seen_length] at this
  refine (lay_any d i bl D w _ xs c S'.dr (by omega) hi hO.has hT.len (fun g' o e => by cases e; exact nf)).mono ?_
  rintro y w' ⟨he, hd⟩
  have Nx := S'.next hd
  obtain ⟨b', S2⟩ := Nx.1
  have htu := DS.step_turns D (.lay i xs)
  have hseen : (D.step (.lay i xs)).seen = D.seen.set i xs := by
    show (D.lay i xs).seen = _
    unfold DS.lay
    rw [if_pos Q.goes]
    unfold DS.seen
    show over D.turned.T (D.A ++ [(i, xs)]) = _
    rw [over_snoc, (turned_TA D).1]
  exact ⟨by rw [he, DS.err_step D (.lay i xs), bad_quiet (Q.step _)]; rfl, .of_kept (.of_kept Nx.2.1), b', D.step (.lay i xs), r, es, D.seen, i, b, xs, S2, Q.step _, cl, hb, hn, hT, hseen, by omega⟩
theorem TurnedAt.settle (C : TurnedAt w0 d l N K 1 w) : Calls Tryz.prog 30 #[.pointer (some ⟨d, 0, none⟩)] w fun y w' => y = .returned (.int .i64 0) ∧ KeptV w w' ∧ TurnedAt w0 d l N K 2 w' := by
  obtain ⟨bl, D, r, es, T, t, b, b', S, Q, cl, hb, hn, hT, hs, ht⟩ := C
  refine (settle_st S (by omega)).mono ?_
  rintro y w' ⟨he, Nx⟩
  obtain ⟨bl', S2⟩ := Nx.1
  have htu := DS.step_turns D .settle
  exact ⟨by rw [he, DS.err_step D .settle, bad_quiet (Q.step _)]; rfl, .of_kept (.of_kept Nx.2.1), bl', D.step .settle, r, es, T, t, b, b', S2, Q.step _, cl, hb, hn, hT, by rw [(step_settle_seen Q).1]; exact hs, by omega⟩
theorem TurnedAt.open_ (C : TurnedAt w0 d l N K 2 w) (hN : N.length ≤ 60) (h0 : 0 < N.length) (hl : 2 + l + N.length ≤ 120) : Calls Tryz.prog 17 #[.pointer (some ⟨d, 0, none⟩)] w fun y w' => (y = .returned (.tuple #[.pointer none, .int .i64 11]) ∧ Old w0 w') ∨ ∃ vp h rs, y = .returned (.tuple #[.pointer (some ⟨vp, 0, none⟩), .int .i64 0]) ∧ Vr w0 vp h rs w' ∧ KeptV w w' ∧ ∀ rs' a', Reading N rs' a' → rs = rs' := by
  obtain ⟨bl, D, r, es, T, t, b, b', S, Q, cl, hb, hn, hT, hs, ht⟩ := C
  have hNT : ∀ x ∈ N, Trk x := fun x hx => cl.live.is.htrk x hx
  have hln : D.T.length = 2 + l + N.length := by rw [← DS.seen_length, hs, List.length_set]; exact cl.len
  refine (vopen_any _ w (fun e w' => e = 11 ∧ Old w0 w') (fun lp H w1 => (Old w0 w1 ∧ KeptL w w1 ∧ ∃ d g L, Blk w1 lp 129 (lhead d g L) ∧ L.ws.length = H.length) ∧ (H = N ∨ ∃ j bj, N[j]? = some bj ∧ Near b' bj K ∧ H = N.set j b')) ?_).mono ?_
  · refine (open_any S (by omega)).mono ?_
    rintro y w1 ⟨Kp, hsz, ⟨bx, rfl, hE, S'⟩ | ⟨k', lq, g, bx, hk', hE, _, rfl, A⟩⟩
    · refine .inl ⟨openE D, hE, rfl, ?_, S'.old⟩
      cases hc : coverK D with
      | none => unfold openE; rw [Q.down, hc]; rfl
      | some k' =>
        refine absurd ?_ hE
        unfold openE
        rw [Q.down, hc]
        exact bad_quiet (openL_quiet Q k')
    · have ok := openL_ok hk' S.dr.ok
      have hq := openL_quiet Q k'
      have hlo : (openL D k').lost = false := openL_lost D k'
      obtain ⟨hwl, N', hN', hhome⟩ := turned_home cl Q hb hT hn hs hk'
      have hNl : N'.length = N.length := by
        rcases hN' with rfl | ⟨j, bj, _, _, rfl⟩
        · rfl
        · rw [List.length_set]
      have hNT' : ∀ x ∈ N', Trk x := fun x hx => by
        rcases hN' with rfl | ⟨j, bj, _, _, rfl⟩
        · exact hNT x hx
        · rcases List.mem_or_eq_of_mem_set hx with q | rfl
          · exact hNT x q
          · exact hT
      refine .inr ⟨lq, N', rfl, ⟨by omega, by omega, ⟨d, g, _, A.head, by rw [hwl, hNl]⟩, hNT', fun w2 o i bs hi => ?_⟩, ⟨A.st.old, Kp, d, g, _, A.head, by rw [hwl, hNl]⟩, hN'⟩
      have hil : i < N.length := by have := lt_of_get hi; omega
      have e1 := hhome i hil
      rw [hi] at e1
      injection e1 with e1
      rw [e1]
      exact look_home (A.step o) ok hlo hq.down i (by rw [hwl]; exact hil)
  · rintro y w' (⟨e, _, rfl, rfl, o⟩ | ⟨lp, H, w1, ⟨⟨o1, Kp, d', g, L, hL, hl'⟩, hH⟩, ok, o, ⟨rfl, _⟩ | ⟨vp, x, rs, a, hR, rfl, m, n1, n2⟩⟩)
    · exact .inl ⟨rfl, o⟩
    · exact .inl ⟨rfl, o1.trans o⟩
    · refine .inr ⟨vp, H.length, rs, rfl, ⟨lp, x, d', g, L, a, m, hL.touch o (fun q => q), hl', o1.trans o⟩, (KeptV.of_kept Kp).trans (KeptV.of_old o), fun rs' a' hR' => ?_⟩
      rcases hH with rfl | ⟨j, bj, hj, hnj, rfl⟩
      · exact (reading_one hR hR').1
      · exact turned_reading h0 (by omega) hNT hT hj hnj hR' hR
end
end Go.Proofs.YtjajenkagcdhlaaGreat
/- The walk of lariatlaw6.VaultTurned. -/
namespace Go.Proofs.YtjajenkagcdhlaaGreat
open Go.RowKit
set_option maxRecDepth 100000
set_option linter.unusedSimpArgs false

section
variable {w0 w w' wl : World} {vp d mp i g K j : Nat} {rs : Recs} {N : Hom}
/-- The vault of the first loop: all of it is wanted. -/
def UA (w0 : World) (vp d mp i : Nat) (w : World) : Prop := ∃ lp x t N rs rk a, t ≤ 3 + i ∧ Vx w0 vp lp d x 30 38 t N rs rk a w ∧ VMap mp rs w
/-- One more is put, and not wanted yet. -/
def UB (w0 : World) (vp d mp i k : Nat) (b : List Nat) (w : World) : Prop := ∃ lp x t N rs rk a, t ≤ 3 + i ∧ Vx w0 vp lp d x 30 38 t N (rs.set k (some b)) rk a w ∧ VMap mp rs w
/-- What is kept is what is wanted. -/
def US (w0 : World) (vp d mp i : Nat) (w : World) : Prop := ∃ lp x t N rs a, t ≤ 3 + i ∧ Vx w0 vp lp d x 30 38 t N rs rs a w ∧ VMap mp rs w
theorem US.ua (U : US w0 vp d mp i w) : UA w0 vp d mp i w := by
  obtain ⟨lp, x, t, N, rs, a, h, v, m⟩ := U
  exact ⟨lp, x, t, N, rs, rs, a, h, v, m⟩
theorem UA.more (U : UA w0 vp d mp i w) : UA w0 vp d mp (i + 1) w := by
  obtain ⟨lp, x, t, N, rs, rk, a, h, v, m⟩ := U
  exact ⟨lp, x, t, N, rs, rk, a, by omega, v, m⟩
theorem UA.old (U : UA w0 vp d mp i w) (o : Old w w') : UA w0 vp d mp i w' := by
  obtain ⟨lp, x, t, N, rs, rk, a, h, v, m⟩ := U
  exact ⟨lp, x, t, N, rs, rk, a, h, v.old o, m.old o⟩
theorem UB.old {k : Nat} {b : List Nat} (U : UB w0 vp d mp i k b w) (o : Old w w') : UB w0 vp d mp i k b w' := by
  obtain ⟨lp, x, t, N, rs, rk, a, h, v, m⟩ := U
  exact ⟨lp, x, t, N, rs, rk, a, h, v.old o, m.old o⟩
theorem UA.old0 (U : UA w0 vp d mp i w) : Old w0 w := by
  obtain ⟨lp, x, t, N, rs, rk, a, h, v, m⟩ := U
  exact v.sail.old0
theorem UA.put (U : UA w0 vp d mp i w) (k : Nat) (h1 : 1 ≤ k) (h40 : k ≤ 40) (p : Option Addr) (b : List Nat) (n c : Nat) (hB : Has w p b) (hn : b.length = n) (hm : n ≤ 60000) :
    Calls Tryz.prog 21 #[.pointer (some ⟨vp, 0, none⟩), .int .i64 (k : Int), .slice p n c] w fun y w' => Old w0 w' ∧ ((y = .returned (.int .i64 3) ∧ UA w0 vp d mp i w') ∨ (y = .returned (.int .i64 0) ∧ UB w0 vp d mp i k b w')) := by
  obtain ⟨lp, x, t, N, rs, rk, a, h, v, m⟩ := U
  refine (v.put m k h1 h40 p b n c hB hn hm).mono ?_
  rintro y w' ⟨o, M, ⟨rfl, V⟩ | ⟨rfl, V⟩⟩
  · exact ⟨o, .inl ⟨rfl, lp, x, t, N, rs, rk, a, h, V, M⟩⟩
  · exact ⟨o, .inr ⟨rfl, lp, x, t, N, rs, rk, a, h, V, M⟩⟩
theorem UB.want {k : Nat} {b : List Nat} (U : UB w0 vp d mp i k b w) (hk : k < 41) (hb : b.length ≤ 1000000) (hm : w0.heap.size ≤ mp) :
    ∃ w', (Instr.mapUpdate 29 (.map (some mp)) (.int .i64 (k : Int)) (.string (strOf b))).run Tryz.prog w = .ok () w' ∧ UA w0 vp d mp i w' := by
  obtain ⟨lp, x, t, N, rs, rk, a, h, v, m⟩ := U
  obtain ⟨w', h1, h2, h3⟩ := m.put hk hb
  exact ⟨w', h1, lp, x, t, N, _, rk, a, h, v.map (m.turn h3) hm, h2⟩
theorem UA.keep (U : UA w0 vp d mp i w) (hi : i ≤ 40) : Calls Tryz.prog 13 #[.pointer (some ⟨vp, 0, none⟩)] w fun y w' => (y = .returned (.int .i64 0) ∧ US w0 vp d mp (i + 1) w') ∨ (y = .returned (.int .i64 5) ∧ Old w0 w') := by
  obtain ⟨lp, x, t, N, rs, rk, a, h, v, m⟩ := U
  refine (v.keep (by omega)).mono ?_
  rintro y w' ⟨K, ⟨rfl, N', a', V⟩ | ⟨rfl, o⟩⟩
  · exact .inl ⟨rfl, lp, x, t + 1, N', rs, a', by omega, V, m.keptV K⟩
  · exact .inr ⟨rfl, o⟩
theorem US.open_ (U : US w0 vp d mp i w) (hi : i ≤ 40) : Calls Tryz.prog 17 #[.pointer (some ⟨d, 0, none⟩)] w fun y w' => ∃ vp', y = .returned (.tuple #[.pointer (some ⟨vp', 0, none⟩), .int .i64 0]) ∧ US w0 vp' d mp (i + 1) w' := by
  obtain ⟨lp, x, t, N, rs, a, h, v, m⟩ := U
  refine (v.open_ (by omega) (by omega)).mono ?_
  rintro y w' ⟨vp', lp', x', rfl, V, K⟩
  exact ⟨vp', rfl, lp', x', t + 1, N, rs, a, by omega, V, m.keptV K⟩
/-- What is on the drum is what is wanted. -/
def Rdn (rs : Recs) (N : Hom) : Prop := RsOk rs ∧ N.length = 38 ∧ ∃ a, Reading N rs a
/-- Its vault is closed. -/
def UC (w0 : World) (d mp : Nat) (rs : Recs) (N : Hom) (w : World) : Prop := ClsAt ⟨w0, []⟩ d 30 N w ∧ VMap mp rs w
theorem US.close (U : US w0 vp d mp i w) (hi : i ≤ 40) : Calls Tryz.prog 27 #[.pointer (some ⟨vp, 0, none⟩)] w fun y w' => y = .returned (.int .i64 0) ∧ ∃ rs N, Rdn rs N ∧ UC w0 d mp rs N w' := by
  obtain ⟨lp, x, t, N, rs, a, h, v, m⟩ := U
  have hN := v.sail.len
  have ok := v.mem.rok
  have hR : Reading N rs a := reading_all (by omega) (by rw [hN]; exact v.mem.vld) v.holds
  refine (v.close (by omega)).mono ?_
  rintro y w' ⟨rfl, K, C⟩
  exact ⟨rfl, rs, N, ⟨ok, hN, a, hR⟩, C, m.keptV K⟩
/-- The bytes of a track of it, in the law's hand; up to four of them, from K on, are turned. -/
def UT (wl w0 : World) (d mp g i K : Nat) (rs : Recs) (N : Hom) (w : World) : Prop := ∃ b xs, ClsD w0 d 30 N i b wl ∧ wl.heap.size ≤ g ∧ Own w g xs ∧ Trk xs ∧ Near xs b K ∧ Old wl w ∧ VMap mp rs w
theorem UC.look (U : UC w0 d mp rs N w) (i K : Nat) (hi : i < 70) (hN : N.length = 38) : Calls Tryz.prog 28 #[.pointer (some ⟨d, 0, none⟩), .int .i64 (i : Int)] w fun y w' => ∃ g, y = .returned (.tuple #[.slice (some ⟨g, 0, none⟩) 96 96, .int .i64 0]) ∧ UT w w0 d mp g i K rs N w' := by
  refine (U.1.look i (by omega)).mono ?_
  rintro y w' ⟨g, b, rfl, hg, O, T, o, C⟩
  exact ⟨g, rfl, b, b, C, hg, O, T, fun _ _ => rfl, o, U.2.old o⟩
theorem UT.old0 (U : UT wl w0 d mp g i K rs N w) : Old w0 w := by
  obtain ⟨b, xs, ⟨bl, D, r, es, S, _⟩, _, _, _, _, o, _⟩ := U
  exact S.old.trans o
theorem UT.cell (U : UT wl w0 d mp g i K rs N w) (q : Nat) (hq : q < 96) : ∃ c : Nat, w.cell? ⟨g, q, none⟩ = some (.int .u8 (c : Int)) ∧ w.frozen? ⟨g, q, none⟩ = false := by
  obtain ⟨b, xs, C, hg, O, T, n, o, m⟩ := U
  exact ⟨_, O.cell q (by rw [T.len]; exact hq), O.frozen q⟩
theorem at0_other {xs : List Nat} {q m v : Nat} (h : q ≠ m) : at0 (xs.set q v) m = at0 xs m := by
  unfold at0
  rw [List.getD_eq_getElem?_getD, List.getElem?_set_ne h, ← List.getD_eq_getElem?_getD]
theorem UT.set (U : UT wl w0 d mp g i K rs N w) (hj : j < 4) (q v : Nat) (hq : K + j = q) (hq96 : q < 96) (hv : v < 256) : UT wl w0 d mp g i K rs N (w.setCell ⟨g, q, none⟩ (.int .u8 (v : Int))) := by
  obtain ⟨b, xs, C, hg, O, T, n, o, m⟩ := U
  refine ⟨b, xs.set q v, C, hg, O.set q v (by rw [T.len]; exact hq96) hv, ⟨fun y hy => ?_, by rw [List.length_set]; exact T.len⟩, fun e he => ?_, o.setCell (p := ⟨g, q, none⟩) (.inr hg) _, ?_⟩
  · rcases List.mem_or_eq_of_mem_set hy with h | rfl
    · exact T.byte y h
    · exact hv
  · rw [at0_other (by omega)]
    exact n e he
  · obtain ⟨rest, hb⟩ := O.row
    exact m.touch ((Touch.refl (fun k => k = g) w).setCell (p := ⟨g, q, none⟩) (.inl rfl) _) (fun e => m.ne (show Blk w g 5 _ from hb) e.symm)
/-- It is laid again, one track of it turned. -/
def UU (w0 : World) (d mp k : Nat) (rs : Recs) (N : Hom) (w : World) : Prop := (∃ K, TurnedAt w0 d 30 N K k w) ∧ VMap mp rs w
theorem UT.lay (U : UT wl w0 d mp g i K rs N w) : Calls Tryz.prog 29 #[.pointer (some ⟨d, 0, none⟩), .int .i64 (i : Int), .slice (some ⟨g, 0, none⟩) 96 96] w fun y w' => y = .returned (.int .i64 0) ∧ UU w0 d mp 1 rs N w' := by
  obtain ⟨b, xs, C, hg, O, T, n, o, m⟩ := U
  refine (C.lay o hg O T n).mono ?_
  rintro y w' ⟨rfl, Kp, A⟩
  exact ⟨rfl, ⟨K, A⟩, m.keptV Kp⟩
theorem UU.settle (U : UU w0 d mp 1 rs N w) : Calls Tryz.prog 30 #[.pointer (some ⟨d, 0, none⟩)] w fun y w' => y = .returned (.int .i64 0) ∧ UU w0 d mp 2 rs N w' := by
  obtain ⟨⟨K, A⟩, m⟩ := U
  refine A.settle.mono ?_
  rintro y w' ⟨rfl, Kp, A⟩
  exact ⟨rfl, ⟨K, A⟩, m.keptV Kp⟩
theorem UU.open_ (U : UU w0 d mp 2 rs N w) (R : Rdn rs N) : Calls Tryz.prog 17 #[.pointer (some ⟨d, 0, none⟩)] w fun y w' => (y = .returned (.tuple #[.pointer none, .int .i64 11]) ∧ Old w0 w') ∨ ∃ vp h, y = .returned (.tuple #[.pointer (some ⟨vp, 0, none⟩), .int .i64 0]) ∧ Vr w0 vp h rs w' ∧ VMap mp rs w' := by
  obtain ⟨⟨K, A⟩, m⟩ := U
  obtain ⟨ok, hN, a, hR⟩ := R
  refine (A.open_ (by omega) (by omega) (by omega)).mono ?_
  rintro y w' (⟨rfl, o⟩ | ⟨vp, h, rs', rfl, V, Kp, hs⟩)
  · exact .inl ⟨rfl, o⟩
  · obtain rfl := hs _ _ hR
    exact .inr ⟨vp, h, rfl, V, m.keptV Kp⟩
end
set_option maxHeartbeats 12800000 in
theorem turned_law (pa : Option Addr) (la ca : Nat) (tr at_ : Int) (pB : Option Addr) (lB cB : Nat) (bs : List Nat) (ag : Bool) (w : World) (hA : HasA w pa la) (hla : la ≤ 140737488355328) (hB : Has w pB bs) (hlB : bs.length = lB) (hlB2 : lB ≤ 140737488351232) :
    Calls Tryz.prog 5 #[.slice pa la ca, .int .i64 tr, .int .i64 at_, .slice pB lB cB, .bool ag] w fun e w' => e = .returned (.bool true) ∧ Below w.heap.size w w' := by
  have HA := Lib.hid hA
  have HB := Lib.hid hB
  have HLB := Lib.hid hlB
  have H1 := Lib.hid hla
  have H3 := Lib.hid hlB2
  have HPt := Lib.hid (pick_at tr 70 (by decide) (by decide))
  have HPk96 := Lib.hid (pick_at at_ 96 (by decide) (by decide))
  have hk70 := pickN_lt (n := tr) (m := 70) (by decide)
  have hk96 := pickN_lt (n := at_) (m := 96) (by decide)
  generalize pickN tr 70 = kt at *
  generalize pickN at_ 96 = K at *
  have hkt : kt < 70 := by omega
  have hK : K < 96 := by omega
  clear hA hla hB hlB hlB2 hk70 hk96
  go_enter Tryz.func5, Tryz.ntmps5
  go_wp2_with fail
  refine (known_any w).mono ?_
  rintro y w1 ⟨rfl, O1⟩
  have HFo : Hid (Calls Tryz.prog 10 #[.int .i64 70, .int .i64 30] w1 fun y w' => ∃ vp lp d x, y = .returned (.tuple #[.pointer (some ⟨vp, 0, none⟩), .pointer (some ⟨d, 0, none⟩)]) ∧ Vx w vp lp d x 30 38 3 (home0 38) rs0 rs0 ps0 w' ∧ KeptV w1 w') := lfoundx_any O1 (n := 70) (l := 30) (h := 38) rfl (by omega) (by omega) (by omega) (by omega)
  clear O1
  go_wp2_with fail
  refine HFo.out.mono ?_
  rintro y w2 ⟨vp, lp, d, x, rfl, V2, _⟩
  have HV2 := Lib.hid V2
  clear V2 HFo
  go_wp2_with fail
  refine (known_any w2).mono ?_
  rintro y w3 ⟨rfl, O3⟩
  have HV3 := Lib.hid (HV2.out.old O3)
  clear O3 HV2
  have hmm := @run_makeMap Tryz.prog
  have HU3 : Hid (UA w vp d w3.heap.size 0 (w3.alloc (.map #[] 0))) := ⟨lp, x, 3, _, _, _, _, by omega, HV3.out.old ((Touch.refl _ _).alloc _), VMap.made w3⟩
  have HMp : Hid (w.heap.size ≤ w3.heap.size) := HV3.out.sail.old0.size
  clear HV3
  go_wp2_with fail
  clear hmm
  generalize w3.alloc (.map #[] 0) = w4 at *
  generalize w3.heap.size = mp at *
  go_loopw [14, 15, 16] (fun iv _ _ wx => ∃ i : Nat, i ≤ 14 ∧ iv = .int .i64 (i : Int) ∧ Hid (UA w vp d mp i wx)) (fun iv _ _ _ => 14 - (intOf iv).toNat)
  case atStart => exact ⟨0, by omega, rfl, HU3⟩
  case round =>
    obtain ⟨i, hi14, rfl, HU⟩ := hrel
    clear HU3
    obtain ⟨go, hgo⟩ : ∃ go, decide (i < la ∧ i < 14) = go := ⟨_, rfl⟩
    go_upto_region 8 with fail
    go_cut [50] (fun v wx => v = .bool go ∧ wx = wr)
    case first =>
      by_cases h1 : i < la
      · have i1 : (i : Int) < (la : Int) := by omega
        by_cases h2 : i < 14
        · have i2 : (i : Int) < 14 := by omega
          have e : go = true := by rw [← hgo]; exact decide_eq_true ⟨h1, h2⟩
          subst e
          clear hgo
          go_wp2_with fail
          go_meet
          exact ⟨rfl, rfl⟩
        · have i2 : ¬ (i : Int) < 14 := by omega
          have e : go = false := by rw [← hgo]; exact decide_eq_false (fun q => h2 q.2)
          subst e
          clear hgo
          go_wp2_with fail
          go_meet
          exact ⟨rfl, rfl⟩
      · have i1 : ¬ (i : Int) < (la : Int) := by omega
        have e : go = false := by rw [← hgo]; exact decide_eq_false (fun q => h1 q.1)
        subst e
        clear hgo
        go_wp2_with fail
        go_meet
        exact ⟨rfl, rfl⟩
    case rest =>
      obtain ⟨rfl, rfl⟩ := hcut
      cases go with
      | true =>
        as_aux_lemma =>
          obtain ⟨h1, h2⟩ := of_decide_eq_true hgo
          clear hgo
          obtain ⟨ba, oa, r, rfl, hc0, hin⟩ := HA.out i h1
          have HOw := Lib.hid HU.out.old0
          have hc := hc0.old HOw.out
          have HC := Lib.hid hc0
          have c0 := hc.c0
          have c1 := hc.c1
          have c2 := hc.c2
          have c3 := hc.c3
          have c4 := hc.c4
          have c5 := hc.c5
          have c6 := hc.c6
          obtain ⟨B, l, hBl, hl500, hB256, hBy⟩ := act_bytes hin
          have HBy := Lib.hid hBy
          have HPk := Lib.hid (pick_at r.id 7 (by decide) (by decide))
          have hp7 := pickN_lt (n := r.id) (m := 7) (by decide)
          generalize pickN r.id 7 = p at *
          obtain ⟨id, hid⟩ : ∃ id, 1 + p = id := ⟨_, rfl⟩
          have hwid : IntKind.i64.wrap (1 + (p : Int)) = (id : Int) := wrap_fits' (by omega) ⟨by omega, by omega⟩
          have i0 : (0 : Int) ≤ (i : Int) := by omega
          have i1 : (i : Int) < (la : Int) := by omega
          have hwi : IntKind.i64.wrap ((i : Int) + 1) = (i : Int) + 1 := wrap_fits ⟨by omega, by omega⟩
          have HBl := Lib.hid hBl
          have hid1 : 1 ≤ id ∧ id ≤ 7 := by omega
          clear hin hBy hBl hB256 hid hc hc0
          go_wp2_with (first | ((with_reducible refine (HPk.out _).mono ?_); rintro y w' ⟨rfl, rfl⟩))
          refine (HBy.out wc HOw.out).mono ?_
          rintro y w5 ⟨a5, b5, rfl, hb5, Hh5, O5⟩
          have HP := Lib.hid ((HU.out.old O5).put id (by omega) (by omega) a5 B l b5 Hh5 HBl.out (by omega))
          clear Hh5 O5 hb5 HU HOw c0 c1 c2 c3 c4 c5 c6
          go_wp2_with fail
          refine HP.out.mono ?_
          rintro y w6 ⟨o6, ⟨rfl, U6⟩ | ⟨rfl, U6⟩⟩
          · have hc6 := HC.out.old o6
            have c0' := hc6.c0
            have HU6 := Lib.hid U6
            clear hc6 o6 U6 HP
            by_cases h3 : r.what.tmod 3 = 0
            · have HKe := Lib.hid (HU6.out.keep (by omega))
              clear HU6
              go_wp2_with fail
              refine HKe.out.mono ?_
              rintro y w7 (⟨rfl, U7⟩ | ⟨rfl, O7⟩)
              · have HN := Lib.hid U7.ua
                clear U7 HKe c0'
                go_wp2_with fail
                exact ⟨⟨i + 1, by omega, by go_num, HN⟩, by simp [intOf]; omega⟩
              · have HO7 := Lib.hid O7
                clear O7 HKe c0'
                go_wp2_with fail
                go_ret
                exact ⟨rfl, HO7.out.below (Nat.le_refl _) (fun _ _ q => q)⟩
            · have HN := Lib.hid HU6.out.more
              clear HU6
              go_wp2_with fail
              exact ⟨⟨i + 1, by omega, by go_num, HN⟩, by simp [intOf]; omega⟩
          · have hc6 := HC.out.old o6
            have c0' := hc6.c0
            have c1' := hc6.c1
            have c2' := hc6.c2
            have c3' := hc6.c3
            have c4' := hc6.c4
            have c5' := hc6.c5
            have c6' := hc6.c6
            have HU6 := Lib.hid U6
            have HO6 := Lib.hid o6
            clear o6 U6 HP hc6
            go_wp2_with fail
            refine (HBy.out w6 HO6.out).mono ?_
            rintro y w7 ⟨a7, b7, rfl, hb7, Hh7, O7⟩
            have hst := str_any w7 a7 B l b7 Hh7 HBl.out
            obtain ⟨w8, hput, U8⟩ := (HU6.out.old O7).want (by omega) (by rw [HBl.out]; omega) HMp.out
            have HU8 := Lib.hid U8
            have hc8 := HC.out.old U8.old0
            have c08 := hc8.c0
            clear hc8 Hh7 O7 hb7 U8 HU6 HO6 c0' c1' c2' c3' c4' c5' c6'
            by_cases h3 : r.what.tmod 3 = 0
            · have HKe := Lib.hid (HU8.out.keep (by omega))
              clear HU8
              go_wp2_with fail
              refine HKe.out.mono ?_
              rintro y w9 (⟨rfl, U9⟩ | ⟨rfl, O9⟩)
              · have HN := Lib.hid U9.ua
                clear U9 HKe c08
                go_wp2_with fail
                exact ⟨⟨i + 1, by omega, by go_num, HN⟩, by simp [intOf]; omega⟩
              · have HO9 := Lib.hid O9
                clear O9 HKe c08
                go_wp2_with fail
                go_ret
                exact ⟨rfl, HO9.out.below (Nat.le_refl _) (fun _ _ q => q)⟩
            · have HN := Lib.hid HU8.out.more
              clear HU8
              go_wp2_with fail
              exact ⟨⟨i + 1, by omega, by go_num, HN⟩, by simp [intOf]; omega⟩
      | false =>
        clear hgo
        have HKe := Lib.hid (HU.out.keep (by omega))
        clear HU
        go_wp2_with fail
        refine HKe.out.mono ?_
        rintro y w5 (⟨rfl, U5⟩ | ⟨rfl, O5⟩)
        · have HS5 := Lib.hid U5
          clear U5 HKe
          cases ag with
          | true =>
            as_aux_lemma =>
              have HOp := Lib.hid (HS5.out.open_ (by omega))
              clear HS5
              go_wp2_with fail
              refine HOp.out.mono ?_
              rintro y w6 ⟨vp6, rfl, U6⟩
              have HCl := Lib.hid (U6.close (by omega))
              clear U6 HOp
              go_wp2_with fail
              refine HCl.out.mono ?_
              rintro y wl ⟨rfl, rs, N, R, C⟩
              have HR := Lib.hid R
              have HLk := Lib.hid (C.look kt K hkt R.2.1)
              clear R C HCl
              go_wp2_with (first | ((with_reducible refine (HPt.out _).mono ?_); rintro y w' ⟨rfl, rfl⟩))
              refine HLk.out.mono ?_
              rintro y w8 ⟨g, rfl, T8⟩
              have HT8 := Lib.hid T8
              clear T8 HLk
              go_wp2_with fail
              go_loopw [22, 23] (fun iv _ wx => ∃ j : Nat, j ≤ 4 ∧ iv = .int .i64 (j : Int) ∧ Hid (UT wl w d mp g kt K rs N wx)) (fun iv _ _ => 4 - (intOf iv).toNat)
              case atStart => exact ⟨0, by omega, rfl, HT8⟩
              case round =>
                obtain ⟨j, hj4, rfl, HT⟩ := hrel
                clear HT8
                obtain ⟨go, hgo⟩ : ∃ go, decide (j < lB ∧ j < 4) = go := ⟨_, rfl⟩
                go_upto_region 32 with fail
                go_cut [129] (fun v wx => v = .bool go ∧ wx = wr)
                case first =>
                  by_cases h1 : j < lB
                  · have i1 : (j : Int) < (lB : Int) := by omega
                    by_cases h2 : j < 4
                    · have i2 : (j : Int) < 4 := by omega
                      have e : go = true := by rw [← hgo]; exact decide_eq_true ⟨h1, h2⟩
                      subst e
                      clear hgo
                      go_wp2_with fail
                      go_meet
                      exact ⟨rfl, rfl⟩
                    · have i2 : ¬ (j : Int) < 4 := by omega
                      have e : go = false := by rw [← hgo]; exact decide_eq_false (fun q => h2 q.2)
                      subst e
                      clear hgo
                      go_wp2_with fail
                      go_meet
                      exact ⟨rfl, rfl⟩
                  · have i1 : ¬ (j : Int) < (lB : Int) := by omega
                    have e : go = false := by rw [← hgo]; exact decide_eq_false (fun q => h1 q.1)
                    subst e
                    clear hgo
                    go_wp2_with fail
                    go_meet
                    exact ⟨rfl, rfl⟩
                case rest =>
                  obtain ⟨rfl, rfl⟩ := hcut
                  cases go with
                  | true =>
                    obtain ⟨h1, h2⟩ := of_decide_eq_true hgo
                    clear hgo
                    obtain ⟨bW, offW, rfl, hcW⟩ := (HB.out.old HT.out.old0).cell j (by rw [HLB.out]; exact h1)
                    have hv := at0_lt HB.out.byte j
                    generalize at0 bs j = v at *
                    obtain ⟨q, hq⟩ : ∃ q, K + j = q := ⟨_, rfl⟩
                    have hwq : IntKind.i64.wrap ((K : Int) + (j : Int)) = (q : Int) := wrap_fits' (by omega) ⟨by omega, by omega⟩
                    have j0 : (0 : Int) ≤ (j : Int) := by omega
                    have j1 : (j : Int) < (lB : Int) := by omega
                    have hwj : IntKind.i64.wrap ((j : Int) + 1) = (j : Int) + 1 := wrap_fits ⟨by omega, by omega⟩
                    by_cases hq96 : q < 96
                    · have q0 : (0 : Int) ≤ (q : Int) := by omega
                      have q1 : (q : Int) < 96 := by omega
                      obtain ⟨cv, hcq, hfq⟩ := HT.out.cell q hq96
                      have HN := Lib.hid (HT.out.set h2 q v hq hq96 hv)
                      clear hv hq
                      go_wp2_with (first | ((with_reducible refine (HPk96.out _).mono ?_); rintro y w' ⟨rfl, rfl⟩))
                      exact ⟨⟨j + 1, by omega, by go_num, HN⟩, by simp [intOf]; omega⟩
                    · have q1 : ¬ (q : Int) < 96 := by omega
                      clear hv hq
                      go_wp2_with (first | ((with_reducible refine (HPk96.out _).mono ?_); rintro y w' ⟨rfl, rfl⟩))
                      exact ⟨⟨j + 1, by omega, by go_num, HT⟩, by simp [intOf]; omega⟩
                  | false =>
                    clear hgo
                    have HLy := Lib.hid HT.out.lay
                    clear HT
                    go_wp2_with fail
                    refine HLy.out.mono ?_
                    rintro y w9 ⟨rfl, U9⟩
                    have HSe := Lib.hid U9.settle
                    clear U9 HLy
                    go_wp2_with fail
                    refine HSe.out.mono ?_
                    rintro y w10 ⟨rfl, U10⟩
                    have HOp := Lib.hid (U10.open_ HR.out)
                    clear U10 HSe
                    go_wp2_with fail
                    refine HOp.out.mono ?_
                    rintro y w11 (⟨rfl, O11⟩ | ⟨vq, hv, rfl, V11, M11⟩)
                    · have HO11 := Lib.hid O11
                      clear O11 HOp
                      go_wp2_with fail
                      go_ret
                      exact ⟨rfl, HO11.out.below (Nat.le_refl _) (fun _ _ q => q)⟩
                    · have HI := Lib.hid (is_any2 V11 M11 HR.out.1)
                      have HO11 := Lib.hid V11.old0
                      clear V11 M11 HOp
                      go_wp2_with fail
                      refine HI.out.mono ?_
                      rintro y w12 ⟨c, rfl, hc, O12⟩
                      obtain rfl : c = true := by simpa using hc
                      have HO12 := Lib.hid (HO11.out.trans O12)
                      clear O12 hc HI HO11
                      go_wp2_with fail
                      go_ret
                      exact ⟨rfl, HO12.out.below (Nat.le_refl _) (fun _ _ q => q)⟩
          | false =>
            as_aux_lemma =>
              have HCl := Lib.hid (HS5.out.close (by omega))
              clear HS5
              go_wp2_with fail
              refine HCl.out.mono ?_
              rintro y wl ⟨rfl, rs, N, R, C⟩
              have HR := Lib.hid R
              have HLk := Lib.hid (C.look kt K hkt R.2.1)
              clear R C HCl
              go_wp2_with (first | ((with_reducible refine (HPt.out _).mono ?_); rintro y w' ⟨rfl, rfl⟩))
              refine HLk.out.mono ?_
              rintro y w8 ⟨g, rfl, T8⟩
              have HT8 := Lib.hid T8
              clear T8 HLk
              go_wp2_with fail
              go_loopw [22, 23] (fun iv _ wx => ∃ j : Nat, j ≤ 4 ∧ iv = .int .i64 (j : Int) ∧ Hid (UT wl w d mp g kt K rs N wx)) (fun iv _ _ => 4 - (intOf iv).toNat)
              case atStart => exact ⟨0, by omega, rfl, HT8⟩
              case round =>
                obtain ⟨j, hj4, rfl, HT⟩ := hrel
                clear HT8
                obtain ⟨go, hgo⟩ : ∃ go, decide (j < lB ∧ j < 4) = go := ⟨_, rfl⟩
                go_upto_region 32 with fail
                go_cut [129] (fun v wx => v = .bool go ∧ wx = wr)
                case first =>
                  by_cases h1 : j < lB
                  · have i1 : (j : Int) < (lB : Int) := by omega
                    by_cases h2 : j < 4
                    · have i2 : (j : Int) < 4 := by omega
                      have e : go = true := by rw [← hgo]; exact decide_eq_true ⟨h1, h2⟩
                      subst e
                      clear hgo
                      go_wp2_with fail
                      go_meet
                      exact ⟨rfl, rfl⟩
                    · have i2 : ¬ (j : Int) < 4 := by omega
                      have e : go = false := by rw [← hgo]; exact decide_eq_false (fun q => h2 q.2)
                      subst e
                      clear hgo
                      go_wp2_with fail
                      go_meet
                      exact ⟨rfl, rfl⟩
                  · have i1 : ¬ (j : Int) < (lB : Int) := by omega
                    have e : go = false := by rw [← hgo]; exact decide_eq_false (fun q => h1 q.1)
                    subst e
                    clear hgo
                    go_wp2_with fail
                    go_meet
                    exact ⟨rfl, rfl⟩
                case rest =>
                  obtain ⟨rfl, rfl⟩ := hcut
                  cases go with
                  | true =>
                    obtain ⟨h1, h2⟩ := of_decide_eq_true hgo
                    clear hgo
                    obtain ⟨bW, offW, rfl, hcW⟩ := (HB.out.old HT.out.old0).cell j (by rw [HLB.out]; exact h1)
                    have hv := at0_lt HB.out.byte j
                    generalize at0 bs j = v at *
                    obtain ⟨q, hq⟩ : ∃ q, K + j = q := ⟨_, rfl⟩
                    have hwq : IntKind.i64.wrap ((K : Int) + (j : Int)) = (q : Int) := wrap_fits' (by omega) ⟨by omega, by omega⟩
                    have j0 : (0 : Int) ≤ (j : Int) := by omega
                    have j1 : (j : Int) < (lB : Int) := by omega
                    have hwj : IntKind.i64.wrap ((j : Int) + 1) = (j : Int) + 1 := wrap_fits ⟨by omega, by omega⟩
                    by_cases hq96 : q < 96
                    · have q0 : (0 : Int) ≤ (q : Int) := by omega
                      have q1 : (q : Int) < 96 := by omega
                      obtain ⟨cv, hcq, hfq⟩ := HT.out.cell q hq96
                      have HN := Lib.hid (HT.out.set h2 q v hq hq96 hv)
                      clear hv hq
                      go_wp2_with (first | ((with_reducible refine (HPk96.out _).mono ?_); rintro y w' ⟨rfl, rfl⟩))
                      exact ⟨⟨j + 1, by omega, by go_num, HN⟩, by simp [intOf]; omega⟩
                    · have q1 : ¬ (q : Int) < 96 := by omega
                      clear hv hq
                      go_wp2_with (first | ((with_reducible refine (HPk96.out _).mono ?_); rintro y w' ⟨rfl, rfl⟩))
                      exact ⟨⟨j + 1, by omega, by go_num, HT⟩, by simp [intOf]; omega⟩
                  | false =>
                    clear hgo
                    have HLy := Lib.hid HT.out.lay
                    clear HT
                    go_wp2_with fail
                    refine HLy.out.mono ?_
                    rintro y w9 ⟨rfl, U9⟩
                    have HSe := Lib.hid U9.settle
                    clear U9 HLy
                    go_wp2_with fail
                    refine HSe.out.mono ?_
                    rintro y w10 ⟨rfl, U10⟩
                    have HOp := Lib.hid (U10.open_ HR.out)
                    clear U10 HSe
                    go_wp2_with fail
                    refine HOp.out.mono ?_
                    rintro y w11 (⟨rfl, O11⟩ | ⟨vq, hv, rfl, V11, M11⟩)
                    · have HO11 := Lib.hid O11
                      clear O11 HOp
                      go_wp2_with fail
                      go_ret
                      exact ⟨rfl, HO11.out.below (Nat.le_refl _) (fun _ _ q => q)⟩
                    · have HI := Lib.hid (is_any2 V11 M11 HR.out.1)
                      have HO11 := Lib.hid V11.old0
                      clear V11 M11 HOp
                      go_wp2_with fail
                      refine HI.out.mono ?_
                      rintro y w12 ⟨c, rfl, hc, O12⟩
                      obtain rfl : c = true := by simpa using hc
                      have HO12 := Lib.hid (HO11.out.trans O12)
                      clear O12 hc HI HO11
                      go_wp2_with fail
                      go_ret
                      exact ⟨rfl, HO12.out.below (Nat.le_refl _) (fun _ _ q => q)⟩
        · have HO5 := Lib.hid O5
          clear O5 HKe
          go_wp2_with fail
          go_ret
          exact ⟨rfl, HO5.out.below (Nat.le_refl _) (fun _ _ q => q)⟩
end Go.Proofs.YtjajenkagcdhlaaGreat
