/- The plain model's laws: how the tokens of a text go on. -/
import Derived.Test.YtdfodmnjgpgojaaDoorLb
namespace Go.Proofs.YtdfodmnjgpgojaaDoor
open Go.PlainAid
set_option maxRecDepth 100000

theorem firstB_good {s : ByteArray} (h0 : 0 < s.size) {k n : Nat} (h : firstB s = (k + 1, n)) : 1 ≤ n ∧ n ≤ s.size ∧ n ≤ 8 := by
  unfold firstB at h
  split at h
  · rename_i q
    split at h
    · cases h
    · injection h with _ h
      subst h
      exact ⟨runN_pos h0 q, (runN_is _ s).le, by omega⟩
  · split at h
    · rename_i q
      split at h
      · cases h
      · injection h with _ h
        subst h
        refine ⟨runN_pos h0 ?_, (runN_is _ s).le, by omega⟩
        unfold lowerB at q
        unfold wordB
        simp only [decide_eq_true_eq] at q ⊢
        exact .inl q
    · split at h
      · injection h with _ h
        subst h
        exact ⟨Nat.le_refl _, h0, by decide⟩
      · split at h
        · rename_i q
          injection h with _ h
          subst h
          have hl := signB_le (bt s 0) (bt s 1)
          refine ⟨q, ?_, by omega⟩
          rcases Nat.lt_or_ge 1 s.size with h1 | h1
          · omega
          · rw [bt_end s h1] at hl ⊢
            unfold signB
            rw [if_neg (by omega)]
            split <;> omega
        · cases h

theorem firstB_digit {s : ByteArray} {n : Nat} (h : firstB s = (1, n)) : n ≤ 3 ∧ ∀ i, i < n → digitB (bt s i) = true := by
  unfold firstB at h
  split at h
  · split at h
    · cases h
    · injection h with _ h
      subst h
      exact ⟨by omega, (runN_is _ s).all⟩
  · split at h
    · split at h
      · cases h
      · injection h with h _; cases h
    · split at h
      · injection h with h _; cases h
      · split at h
        · injection h with h _; cases h
        · cases h
theorem tok_digit {s : ByteArray} {a n : Nat} (h : firstB (s.extract a s.size) = (1, n)) (hn : a + n ≤ s.size) : (s.extract a (a + n)).size = n ∧ n ≤ 3 ∧ ∀ i, i < (s.extract a (a + n)).size → digitB (bt (s.extract a (a + n)) i) = true := by
  obtain ⟨h1, h2⟩ := firstB_digit h
  have hsz : (s.extract a (a + n)).size = n := by rw [ByteArray.size_extract]; omega
  refine ⟨hsz, h1, fun i hi => ?_⟩
  rw [hsz] at hi
  have := h2 i hi
  rw [bt_part s a s.size i (by omega)] at this
  rw [bt_part s a (a + n) i (by omega)]
  exact this

theorem restF_enough (s : ByteArray) : ∀ (f g a : Nat), s.size ≤ a + f → s.size ≤ a + g → restF s f a = restF s g a
  | 0, 0, _, _, _ => rfl
  | 0, g + 1, a, h, _ => by unfold restF; rw [if_pos (by omega)]
  | f + 1, 0, a, _, h => by unfold restF; rw [if_pos (by omega)]
  | f + 1, g + 1, a, h1, h2 => by
    unfold restF
    by_cases q : s.size ≤ a
    · rw [if_pos q, if_pos q]
    · rw [if_neg q, if_neg q]
      by_cases b : blankB (bt s a) = true
      · rw [if_pos b, if_pos b]
        exact restF_enough s f g (a + 1) (by omega) (by omega)
      · rw [if_neg b, if_neg b]
        match e : firstB (s.extract a s.size) with
        | (0, _) => rfl
        | (k + 1, n) =>
          have := (firstB_good (by rw [ByteArray.size_extract]; omega) e).1
          show (tokAt s (k + 1) n a :: (restF s f (a + n)).fst, (restF s f (a + n)).snd) = (tokAt s (k + 1) n a :: (restF s g (a + n)).fst, (restF s g (a + n)).snd)
          rw [restF_enough s f g (a + n) (by omega) (by omega)]

/-- The tokens of what begins at a, or where none begins. -/
def rest (s : ByteArray) (a : Nat) : List Tok × Option Nat := restF s (s.size - a + 1) a
theorem rest_end {s : ByteArray} {a : Nat} (h : s.size ≤ a) : rest s a = ([tokEnd s], none) := by unfold rest restF; rw [if_pos h]
theorem rest_blank {s : ByteArray} {a : Nat} (h : a < s.size) (hb : blankB (bt s a) = true) : rest s a = rest s (a + 1) := by
  show restF s (s.size - a + 1) a = restF s (s.size - (a + 1) + 1) (a + 1)
  conv => lhs; unfold restF
  rw [if_neg (by omega), if_pos hb]
  exact restF_enough s _ _ (a + 1) (by omega) (by omega)
theorem rest_bad {s : ByteArray} {a n : Nat} (h : a < s.size) (hb : blankB (bt s a) = false) (hf : firstB (s.extract a s.size) = (0, n)) : rest s a = ([], some a) := by
  unfold rest restF
  rw [if_neg (by omega), if_neg (by rw [hb]; decide), hf]
theorem rest_tok {s : ByteArray} {a k n : Nat} (h : a < s.size) (hb : blankB (bt s a) = false) (hf : firstB (s.extract a s.size) = (k + 1, n)) :
    rest s a = ((tokAt s (k + 1) n a) :: (rest s (a + n)).1, (rest s (a + n)).2) := by
  have := (firstB_good (by rw [ByteArray.size_extract]; omega) hf).1
  show restF s (s.size - a + 1) a = _
  conv => lhs; unfold restF
  rw [if_neg (by omega), if_neg (by rw [hb]; decide), hf]
  simp only
  rw [restF_enough s (s.size - a) (s.size - (a + n) + 1) (a + n) (by omega) (by omega)]
  rfl
/-- The tokens that Lex answers, and the place that does not fit. -/
def lexL (s : ByteArray) : List Tok := if s.size > 60000 then [] else match (rest s 0).2 with | some _ => [] | none => (rest s 0).1
def lexE (s : ByteArray) : Int := if s.size > 60000 then 14 else match (rest s 0).2 with | some _ => 2 | none => 0
def lexA (s : ByteArray) : Int := if s.size > 60000 then 0 else match (rest s 0).2 with | some a => (a : Int) | none => 0
end Go.Proofs.YtdfodmnjgpgojaaDoor
