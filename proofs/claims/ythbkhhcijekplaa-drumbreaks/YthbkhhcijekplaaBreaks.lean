/- What DrumBreaks' rounds leave of a drum. -/
import Derived.Test.YthbkhhcijekplaaTorn
namespace Go.Proofs.Ythbkhhcijekplaa
open Go.RowKit

/-- i turns were asked for behind a break of a; track 0 is as it was settled. -/
structure Brk (a i : Nat) (D : DS) : Prop where
  len : D.T.length = 14
  zero : D.T[0]? = some (same 7)
  lays : ∀ x ∈ D.A, x.1 ≠ 0
  left : D.left = some (a - i)
  down : D.down = decide (a < i)
  turns : D.turns = 2 + min i a

theorem Brk.goes {a i : Nat} {D : DS} (h : Brk a i D) : D.goes = decide (i < a) := by
  unfold DS.goes
  rw [h.down, h.left, Bool.eq_iff_iff]
  simp
  omega
theorem Brk.turned {a i : Nat} {D : DS} (h : Brk a i D) : Brk a (i + 1) D.turned := by
  unfold DS.turned
  rw [h.goes]
  by_cases hi : i < a
  · simp only [hi, decide_true, if_true]
    exact ⟨h.len, h.zero, h.lays, by rw [h.left]; simp; omega, by rw [h.down, Bool.eq_iff_iff]; simp; omega, by simp only; rw [h.turns]; omega⟩
  · simp only [hi, decide_false, Bool.false_eq_true, if_false]
    exact ⟨h.len, h.zero, h.lays, by rw [h.left]; simp; omega, by simp; omega, by simp only; rw [h.turns]; omega⟩
theorem Brk.lay {a i : Nat} {D : DS} (h : Brk a i D) (k : Nat) (xs : List Nat) (hk : k ≠ 0) : Brk a (i + 1) (D.lay k xs) := by
  have ht := h.turned
  unfold DS.lay
  split
  · refine ⟨ht.len, ht.zero, fun x hx => ?_, ht.left, ht.down, ht.turns⟩
    rcases List.mem_append.1 hx with h1 | h1
    · exact h.lays x h1
    · obtain rfl := List.mem_singleton.1 h1
      exact hk
  · exact ht
theorem Brk.settle {a i : Nat} {D : DS} (h : Brk a i D) : Brk a (i + 1) D.settle := by
  have ht := h.turned
  unfold DS.settle
  split
  · refine ⟨by simp only; rw [DS.seen_length, h.len], ?_, (fun _ hx => by cases hx), ht.left, ht.down, ht.turns⟩
    simp only [DS.seen]
    rw [over_other _ _ _ h.lays]
    exact h.zero
  · exact ht
theorem Brk.err {a i : Nat} {D : DS} (h : Brk a i D) : D.err = if i < a then 0 else 4 := by
  unfold DS.err
  rw [h.goes]
  by_cases hi : i < a
  · simp [hi]
  · simp [hi]
/-- The drum that the rounds begin with. -/
def brk0 (a : Nat) : DS := (((DS.new 14).lay 0 (same 7)).settle).brk (some a)
theorem Brk.start (a : Nat) : Brk a 0 (brk0 a) := ⟨by rfl, by rfl, (fun _ hx => by cases hx), rfl, by simp; rfl, by simp; rfl⟩
theorem Brk.fallen {a i : Nat} {D : DS} (h : Brk a i D) (p : Nat → Nat) : (D.fall p).seen.getD 0 [] = same 7 := by
  have e : (D.fall p).seen = falls p D.T D.A D.A.length := rfl
  rw [e]
  exact getD_of ((falls_other 0 h.lays _ (Nat.le_refl _)).trans h.zero)
end Go.Proofs.Ythbkhhcijekplaa
