/- The longest sign that a text begins with, by its first two bytes; lex.signSize's contract. -/
import Derived.Test.YtdfodmnjgpgojaaDoorSgn
import Derived.Lib.Strings
namespace Go.Proofs.YtdfodmnjgpgojaaDoor
open Go.RowKit Go.PlainAid
set_option maxRecDepth 100000

theorem bt_data (s : ByteArray) (k : Nat) (h : k < s.size) : bt s k = (s.data.toList.getD k 0).toNat := by
  unfold bt
  rw [dif_pos h]
  have : k < s.data.toList.length := by simpa using h
  rw [List.getD_eq_getElem?_getD, List.getElem?_eq_getElem this]
  rfl
theorem size_data (s : ByteArray) : s.data.toList.length = s.size := by simp
theorem toNat_eq (x y : UInt8) : ((x.toNat : Int) = (y.toNat : Int)) ↔ x = y := by
  rw [← UInt8.toNat_inj]
  omega
theorem preB_one (s : ByteArray) (c : UInt8) (hc : 0 < c.toNat) : preB s ⟨#[c]⟩ = decide (bt s 0 = (c.toNat : Int)) := by
  unfold preB
  rw [Lib.extract_toList]
  have e0 : (⟨#[c]⟩ : ByteArray).size = 1 := rfl
  have e1 : (⟨#[c]⟩ : ByteArray).toList = [c] := by rw [Lib.toList_data]
  rw [e0, e1]
  rcases Nat.eq_zero_or_pos s.size with q | q
  · rw [bt_end s (by omega)]
    rw [decide_eq_false (by omega), Bool.false_and, decide_eq_false (by omega)]
  · rw [decide_eq_true (show 1 ≤ s.size by omega), Bool.true_and, bt_data s 0 q]
    have hl := size_data s
    generalize s.data.toList = l at *
    match l, hl with
    | [], hl => simp at hl; omega
    | x :: r, _ =>
      rw [Bool.eq_iff_iff, decide_eq_true_eq, List.getD_cons_zero, toNat_eq]
      simp
theorem preB_two (s : ByteArray) (c d : UInt8) (hd : 0 < d.toNat) : preB s ⟨#[c, d]⟩ = decide (bt s 0 = (c.toNat : Int) ∧ bt s 1 = (d.toNat : Int)) := by
  unfold preB
  rw [Lib.extract_toList]
  have e0 : (⟨#[c, d]⟩ : ByteArray).size = 2 := rfl
  have e1 : (⟨#[c, d]⟩ : ByteArray).toList = [c, d] := by rw [Lib.toList_data]
  rw [e0, e1]
  rcases Nat.lt_or_ge s.size 2 with q | q
  · rw [bt_end s (k := 1) (by omega)]
    rw [decide_eq_false (by omega), Bool.false_and, decide_eq_false (by omega)]
  · rw [decide_eq_true (show 2 ≤ s.size by omega), Bool.true_and, bt_data s 0 (by omega), bt_data s 1 (by omega)]
    have hl := size_data s
    generalize s.data.toList = l at *
    match l, hl with
    | [], hl => simp at hl; omega
    | [_], hl => simp at hl; omega
    | x :: y :: r, _ =>
      rw [Bool.eq_iff_iff, decide_eq_true_eq, List.getD_cons_zero, List.getD_cons_succ, List.getD_cons_zero, toNat_eq, toNat_eq]
      simp

theorem sg_size : ∀ i, i < 20 → (sgTab.getD i ByteArray.empty).size = 1 ∨ (sgTab.getD i ByteArray.empty).size = 2 := by decide +kernel
theorem bestN_spec (s : ByteArray) : ∀ k, k ≤ 20 → bestN s k ≤ 2 ∧ (bestN s k = 2 ↔ ∃ i, i < k ∧ (sgTab.getD i ByteArray.empty).size = 2 ∧ preB s (sgTab.getD i ByteArray.empty) = true) ∧ (0 < bestN s k ↔ ∃ i, i < k ∧ preB s (sgTab.getD i ByteArray.empty) = true)
  | 0, _ => ⟨Nat.zero_le _, ⟨fun h => (by cases h), fun ⟨i, h, _⟩ => (by omega)⟩, ⟨fun h => (by cases h), fun ⟨i, h, _⟩ => (by omega)⟩⟩
  | k + 1, hk => by
    obtain ⟨h1, h2, h3⟩ := bestN_spec s k (by omega)
    have hs := sg_size k (by omega)
    unfold bestN
    split
    · rename_i q
      refine ⟨by omega, ⟨fun e => ⟨k, by omega, e, q.2⟩, fun ⟨i, hi, e1, e2⟩ => ?_⟩, ⟨fun _ => ⟨k, by omega, q.2⟩, fun _ => by omega⟩⟩
      rcases Nat.lt_or_ge i k with c | c
      · have := h2.2 ⟨i, c, e1, e2⟩; omega
      · obtain rfl : i = k := by omega
        exact e1
    · rename_i q
      refine ⟨h1, ⟨fun e => ?_, fun ⟨i, hi, e1, e2⟩ => ?_⟩, ⟨fun e => ?_, fun ⟨i, hi, e2⟩ => ?_⟩⟩
      · obtain ⟨i, a, b⟩ := h2.1 e
        exact ⟨i, by omega, b⟩
      · rcases Nat.lt_or_ge i k with c | c
        · exact h2.2 ⟨i, c, e1, e2⟩
        · obtain rfl : i = k := by omega
          have : ¬ (sgTab.getD i ByteArray.empty).size > bestN s i := fun t => q ⟨t, e2⟩
          omega
      · obtain ⟨i, a, b⟩ := h3.1 e
        exact ⟨i, by omega, b⟩
      · rcases Nat.lt_or_ge i k with c | c
        · exact h3.2 ⟨i, c, e2⟩
        · obtain rfl : i = k := by omega
          have : ¬ (sgTab.getD i ByteArray.empty).size > bestN s i := fun t => q ⟨t, e2⟩
          omega
theorem some_sign {P : ByteArray → Prop} : (∃ i, i < 20 ∧ P (sgTab.getD i ByteArray.empty)) ↔ ∃ g ∈ sgTab, P g := by
  constructor
  · rintro ⟨i, hi, h⟩
    have hl : i < sgTab.length := hi
    rw [List.getD_eq_getElem?_getD, List.getElem?_eq_getElem hl] at h
    exact ⟨_, List.getElem_mem hl, h⟩
  · rintro ⟨g, hg, h⟩
    obtain ⟨i, hl, e⟩ := List.getElem_of_mem hg
    refine ⟨i, hl, ?_⟩
    rw [List.getD_eq_getElem?_getD, List.getElem?_eq_getElem hl]
    exact e ▸ h
theorem bestN_sign (s : ByteArray) : bestN s 20 = signB (bt s 0) (bt s 1) := by
  obtain ⟨h1, h2, h3⟩ := bestN_spec s 20 (Nat.le_refl _)
  rw [some_sign (P := fun g => g.size = 2 ∧ preB s g = true)] at h2
  rw [some_sign (P := fun g => preB s g = true)] at h3
  simp only [sgTab, List.mem_cons, List.not_mem_nil, or_false, exists_eq_or_imp, exists_eq_left] at h2 h3
  rw [preB_one s 40 (by decide), preB_one s 41 (by decide), preB_one s 91 (by decide), preB_one s 93 (by decide), preB_one s 43 (by decide), preB_one s 45 (by decide), preB_one s 42 (by decide), preB_one s 60 (by decide), preB_two s 60 61 (by decide), preB_one s 62 (by decide), preB_two s 62 61 (by decide), preB_two s 61 61 (by decide), preB_two s 33 61 (by decide), preB_two s 38 38 (by decide), preB_two s 124 124 (by decide), preB_one s 33 (by decide), preB_one s 64 (by decide), preB_two s 45 62 (by decide), preB_one s 59 (by decide), preB_one s 61 (by decide)] at h2 h3
  have s1 : ∀ c : UInt8, (⟨#[c]⟩ : ByteArray).size = 1 := fun _ => rfl
  have s2 : ∀ c d : UInt8, (⟨#[c, d]⟩ : ByteArray).size = 2 := fun _ _ => rfl
  simp only [s1, s2, decide_eq_true_eq, show ¬ (1 : Nat) = 2 by decide, false_and, false_or, true_and, or_false] at h2 h3
  simp only [show ((UInt8.toNat 40 : Nat) : Int) = 40 from rfl, show ((UInt8.toNat 41 : Nat) : Int) = 41 from rfl, show ((UInt8.toNat 91 : Nat) : Int) = 91 from rfl, show ((UInt8.toNat 93 : Nat) : Int) = 93 from rfl, show ((UInt8.toNat 43 : Nat) : Int) = 43 from rfl, show ((UInt8.toNat 45 : Nat) : Int) = 45 from rfl, show ((UInt8.toNat 42 : Nat) : Int) = 42 from rfl, show ((UInt8.toNat 60 : Nat) : Int) = 60 from rfl, show ((UInt8.toNat 61 : Nat) : Int) = 61 from rfl, show ((UInt8.toNat 62 : Nat) : Int) = 62 from rfl, show ((UInt8.toNat 33 : Nat) : Int) = 33 from rfl, show ((UInt8.toNat 38 : Nat) : Int) = 38 from rfl, show ((UInt8.toNat 124 : Nat) : Int) = 124 from rfl, show ((UInt8.toNat 64 : Nat) : Int) = 64 from rfl, show ((UInt8.toNat 59 : Nat) : Int) = 59 from rfl] at h2 h3
  clear s1 s2
  generalize bestN s 20 = b at *
  generalize bt s 0 = c at *
  generalize bt s 1 = d at *
  unfold signB
  split
  · rename_i q
    exact h2.2 q
  · rename_i q
    have q2 : ¬ b = 2 := fun e => q (h2.1 e)
    split
    · rename_i q1
      have : 0 < b := h3.2 (by
        clear h2 h3 q
        rcases q1 with rfl | rfl | rfl | rfl | rfl | rfl | rfl | rfl | rfl | rfl | rfl | rfl | rfl <;> simp)
      clear h2 h3 q q1
      omega
    · rename_i q1
      have : ¬ 0 < b := fun e => by
        have := h3.1 e
        clear h2 h3
        rcases this with rfl | rfl | rfl | rfl | rfl | rfl | rfl | rfl | ⟨rfl, rfl⟩ | rfl | ⟨rfl, rfl⟩ | ⟨rfl, rfl⟩ | ⟨rfl, rfl⟩ | ⟨rfl, rfl⟩ | ⟨rfl, rfl⟩ | rfl | rfl | ⟨rfl, rfl⟩ | rfl | rfl <;> first | exact q1 (by decide) | exact q (by decide)
      clear h2 h3 q q1
      omega

theorem signSize_any (s : ByteArray) (w : World) (h : Tbl w 3 sgTab) : Calls Tryd.prog 30 #[.string s] w fun e w' => e = .returned (.int .i64 (signB (bt s 0) (bt s 1) : Int)) ∧ w' = w := by
  have := signSize_best s w h
  rw [bestN_sign] at this
  exact this
end Go.Proofs.YtdfodmnjgpgojaaDoor
