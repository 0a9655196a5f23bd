/- The contract of the reference's IsWord. -/
import Derived.Test.YtdfodmnjgpgojaaDoorFst
import Derived.Deep.DeepCutAuto
namespace Go.Proofs.YtdfodmnjgpgojaaDoor
open Go.RowKit Go.PlainAid
set_option maxRecDepth 100000

/-- What place k of a word may be. -/
def atWord (s : ByteArray) (k : Nat) : Prop := lowerB (bt s k) = true ∨ (¬ k = 0 ∧ digitB (bt s k) = true)
theorem atWord_word {s : ByteArray} {k : Nat} (h : atWord s k) : wordB (bt s k) = true := by
  unfold atWord lowerB digitB at h
  unfold wordB
  simp only [decide_eq_true_eq] at h ⊢
  omega
theorem not_digit_lower {c : Int} (h : lowerB c = true) : digitB c = false := by
  unfold lowerB at h
  unfold digitB
  rw [decide_eq_true_eq] at h
  exact decide_eq_false (by omega)
theorem isWord_yes {s : ByteArray} (h0 : 0 < s.size) (h8 : s.size ≤ 8) (h : ∀ k, k < s.size → atWord s k) : isWordB s = true := by
  have hl : lowerB (bt s 0) = true := by
    rcases h 0 h0 with q | q
    · exact q
    · exact absurd rfl q.1
  have hr : runN wordB s = s.size := runN_eq ⟨Nat.le_refl _, fun k hk => atWord_word (h k hk), fun q => absurd q (Nat.lt_irrefl _)⟩
  have hf : firstB s = (2, s.size) := by
    unfold firstB
    rw [if_neg (by rw [not_digit_lower hl]; decide), if_pos hl, hr, if_neg (by omega)]
  unfold isWordB
  rw [hf]
  exact decide_eq_true ⟨h0, rfl, rfl⟩
theorem isWord_all {s : ByteArray} (h : isWordB s = true) : s.size ≤ 8 ∧ ∀ k, k < s.size → atWord s k := by
  unfold isWordB at h
  rw [decide_eq_true_eq] at h
  obtain ⟨h0, h1, h2⟩ := h
  unfold firstB at h1 h2
  split at h1
  · split at h1 <;> cases h1
  · rename_i q
    rw [if_neg q] at h2
    split at h1
    · rename_i q1
      rw [if_pos q1] at h2
      split at h1
      · cases h1
      · rename_i q2
        rw [if_neg q2] at h2
        have h2 : runN wordB s = s.size := h2
        refine ⟨by omega, fun k hk => ?_⟩
        have hk' := (runN_is wordB s).all k (by omega)
        unfold atWord
        by_cases hz : k = 0
        · subst hz; exact .inl q1
        · unfold wordB at hk'
          unfold lowerB digitB
          simp only [decide_eq_true_eq] at hk' ⊢
          omega
    · split at h1
      · cases h1
      · split at h1 <;> cases h1

set_option maxHeartbeats 6400000 in
theorem refIsWord_any (s : ByteArray) (hs : s.size ≤ maxLen) (w : World) : Calls Tryd.prog 12 #[.string s] w fun e w' => e = .returned (.bool (isWordB s)) ∧ w' = w := by
  have hb := get_bt s
  have hmx : maxLen = 9223372036854775807 := by decide
  obtain ⟨m, hm⟩ : ∃ m, s.size = m := ⟨_, rfl⟩
  obtain ⟨b, hbb⟩ : ∃ b, isWordB s = b := ⟨_, rfl⟩
  have HY : Hid (0 < m → m ≤ 8 → (∀ k, k < m → atWord s k) → b = true) := fun h0 h8 h => by rw [← hbb]; exact isWord_yes (by omega) (by omega) (by rw [hm]; exact h)
  have HA : Hid (b = true → 0 < m ∧ m ≤ 8 ∧ ∀ k, k < m → atWord s k) := fun h => by
    have h' := isWord_all (hbb.trans h)
    rw [hm] at h'
    refine ⟨?_, h'⟩
    have h2 := hbb.trans h
    unfold isWordB at h2
    rw [decide_eq_true_eq] at h2
    omega
  rw [hbb]
  clear hbb
  go_enter Tryd.func12, Tryd.ntmps12
  go_wp2_with fail
  go_loopw [3] (fun iv wx => ∃ k : Nat, k ≤ m ∧ iv = .int .i64 (k : Int) ∧ Hid (∀ j, j < k → atWord s j) ∧ w = wx) (fun iv _ => m - (intOf iv).toNat)
  case atStart => exact ⟨0, Nat.zero_le _, rfl, fun j hj => absurd hj (Nat.not_lt_zero _), rfl⟩
  case round =>
    obtain ⟨k, hk, rfl, HW, rfl⟩ := hrel
    by_cases q : k < m
    · have q' : (k : Int) < (m : Int) := by omega
      have HNo : Hid (¬ atWord s k → b = false) := fun h => by
        cases hbv : b with
        | false => rfl
        | true => exact absurd ((HA.out hbv).2.2 k q) h
      have HGo : Hid (atWord s k → ∀ j, j < k + 1 → atWord s j) := fun h j hj => by
        rcases Nat.lt_or_ge j k with c | c
        · exact HW.out j c
        · obtain rfl : j = k := by omega
          exact h
      cases hl : lowerB (bt s k) with
      | true =>
        go_wp2_with (first
          | (with_reducible refine (refLower_any _ _).mono ?_; rintro e w' ⟨rfl, rfl⟩)
          | (with_reducible refine (refDigit_any _ _).mono ?_; rintro e w' ⟨rfl, rfl⟩))
        exact ⟨⟨k + 1, by omega, by rw [Int.natCast_add]; rfl, HGo.out (.inl hl), trivial⟩, by simp only [intOf]; omega⟩
      | false =>
        by_cases hz : k = 0
        · subst hz
          have e : b = false := HNo.out (fun h => by
            rcases h with h | h
            · rw [hl] at h; cases h
            · exact h.1 rfl)
          go_wp2_with (first
            | (with_reducible refine (refLower_any _ _).mono ?_; rintro e w' ⟨rfl, rfl⟩)
            | (with_reducible refine (refDigit_any _ _).mono ?_; rintro e w' ⟨rfl, rfl⟩))
          go_ret
          first | exact ⟨rfl, rfl⟩ | exact ⟨by rw [e]; rfl, rfl⟩
        · have hz' : ¬ (k : Int) = 0 := by omega
          cases hd : digitB (bt s k) with
          | true =>
            go_wp2_with (first
              | (with_reducible refine (refLower_any _ _).mono ?_; rintro e w' ⟨rfl, rfl⟩)
              | (with_reducible refine (refDigit_any _ _).mono ?_; rintro e w' ⟨rfl, rfl⟩))
            exact ⟨⟨k + 1, by omega, by rw [Int.natCast_add]; rfl, HGo.out (.inr ⟨hz, hd⟩), trivial⟩, by simp only [intOf]; omega⟩
          | false =>
            have e : b = false := HNo.out (fun h => by
              rcases h with h | h
              · rw [hl] at h; cases h
              · rw [hd] at h; cases h.2)
            go_wp2_with (first
              | (with_reducible refine (refLower_any _ _).mono ?_; rintro e w' ⟨rfl, rfl⟩)
              | (with_reducible refine (refDigit_any _ _).mono ?_; rintro e w' ⟨rfl, rfl⟩))
            go_ret
            first | exact ⟨rfl, rfl⟩ | exact ⟨by rw [e]; rfl, rfl⟩
    · obtain rfl : m = k := by omega
      by_cases h1 : 1 ≤ m
      · have h1' : (1 : Int) ≤ (m : Int) := by omega
        by_cases h8 : m ≤ 8
        · have h8' : (m : Int) ≤ 8 := by omega
          have e : b = true := HY.out (by omega) h8 HW.out
          go_wp2_with fail
          go_ret
          first | exact ⟨rfl, rfl⟩ | exact ⟨by rw [e]; rfl, rfl⟩
        · have h8' : ¬ (m : Int) ≤ 8 := by omega
          have e : b = false := by
            cases hbv : b with
            | false => rfl
            | true => exact absurd (HA.out hbv).2.1 h8
          go_wp2_with fail
          go_ret
          first | exact ⟨rfl, rfl⟩ | exact ⟨by rw [e]; rfl, rfl⟩
      · have h1' : ¬ (1 : Int) ≤ (m : Int) := by omega
        have e : b = false := by
          cases hbv : b with
          | false => rfl
          | true => exact absurd (HA.out hbv).1 (by omega)
        go_wp2_with fail
        go_ret
        first | exact ⟨rfl, rfl⟩ | exact ⟨by rw [e]; rfl, rfl⟩
end Go.Proofs.YtdfodmnjgpgojaaDoor
