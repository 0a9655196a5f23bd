/- What DrumKeeps' rounds leave of a drum: the chapter's theorem. -/
import Derived.Test.YthbkhhcijekplaaWas
namespace Go.Proofs.Ythbkhhcijekplaa
open Go.RowKit

/-- Ahead of the Settle: what is seen of each track is its one byte. -/
structure Ph1 (L : List (List Nat)) (D : DS) (t : Nat) : Prop where
  calm : Calm D 12 t
  len : L.length = 12
  see : ∀ (k : Nat), k < 12 → ∃ c, c < 256 ∧ L[k]? = some [c] ∧ D.seen[k]? = some (same c)
/-- Behind it: each track was settled as one of its bytes, each Lay afloat is another one. -/
structure Ph2 (L : List (List Nat)) (D : DS) (t : Nat) : Prop where
  calm : Calm D 12 t
  len : L.length = 12
  set : ∀ (k : Nat), k < 12 → ∃ (l : List Nat) (c : Nat), L[k]? = some l ∧ c ∈ l ∧ D.T[k]? = some (same c)
  lay : ∀ x ∈ D.A, ∃ (l : List Nat) (c : Nat), L[x.1]? = some l ∧ c ∈ l ∧ x.2 = same c ∧ 2 ≤ l.length
  byte : ∀ l ∈ L, ∀ y ∈ l, y < 256

theorem same_zero : same 0 = zeros 96 := rfl
theorem Ph1.start : Ph1 (List.replicate 12 [0]) (DS.new 12) 0 :=
  ⟨Calm.new 12, by simp, fun k hk => ⟨0, by omega, by rw [List.getElem?_replicate, if_pos hk], by
    have e : (DS.new 12).seen = List.replicate 12 (zeros 96) := rfl
    rw [e, List.getElem?_replicate, if_pos hk, same_zero]⟩⟩
theorem Ph2.start : Ph2 (List.replicate 12 [0]) (DS.new 12) 0 :=
  ⟨Calm.new 12, by simp, fun k hk => ⟨[0], 0, by rw [List.getElem?_replicate, if_pos hk], by simp, by
    have e : (DS.new 12).T = List.replicate 12 (zeros 96) := rfl
    rw [e, List.getElem?_replicate, if_pos hk, same_zero]⟩, (fun _ hx => by cases hx), fun l hl y hy => by
    rw [(List.mem_replicate.1 hl).2] at hy
    have := List.mem_singleton.1 hy
    omega⟩
theorem Ph1.next {L : List (List Nat)} {D : DS} {t : Nat} (h : Ph1 L D t) {k c : Nat} (hk : k < 12) (hc : c < 256) : Ph1 (L.set k [c]) (D.lay k (same c)) (t + 1) := by
  refine ⟨h.calm.lay _ _, by rw [List.length_set]; exact h.len, fun j hj => ?_⟩
  rw [DS.seen_lay _ _ h.calm.goes]
  by_cases e : k = j
  · subst e
    exact ⟨c, hc, List.getElem?_set_self (by rw [h.len]; exact hk), List.getElem?_set_self (by rw [DS.seen_length, h.calm.len]; exact hk)⟩
  · obtain ⟨c', h1, h2, h3⟩ := h.see j hj
    exact ⟨c', h1, by rw [List.getElem?_set_ne e]; exact h2, by rw [List.getElem?_set_ne e]; exact h3⟩
theorem Ph1.settle {L : List (List Nat)} {D : DS} {t : Nat} (h : Ph1 L D t) : Ph2 L D.settle (t + 1) := by
  refine ⟨h.calm.settle, h.len, fun k hk => ?_, fun x hx => ?_, fun l hl y hy => ?_⟩
  · obtain ⟨c, h1, h2, h3⟩ := h.see k hk
    exact ⟨[c], c, h2, by simp, by rw [h.calm.settle_T]; exact h3⟩
  · rw [h.calm.settle_A] at hx; cases hx
  · obtain ⟨k, hk⟩ := List.getElem?_of_mem hl
    obtain ⟨c, h1, h2, h3⟩ := h.see k (by have := lt_of_get hk; rw [h.len] at this; exact this)
    rw [hk] at h2
    cases h2
    have := List.mem_singleton.1 hy
    omega
theorem Ph2.next {L : List (List Nat)} {D : DS} {t : Nat} (h : Ph2 L D t) {k c : Nat} {l : List Nat} (hk : L[k]? = some l) (hc : c < 256) : Ph2 (L.set k (l ++ [c])) (D.lay k (same c)) (t + 1) := by
  have hkl := lt_of_get hk
  have hne : 1 ≤ l.length := by
    obtain ⟨l', c', h1, h2, _⟩ := h.set k (by rw [← h.len]; exact hkl)
    rw [hk] at h1
    cases h1
    exact List.length_pos_of_mem h2
  refine ⟨h.calm.lay _ _, by rw [List.length_set]; exact h.len, fun j hj => ?_, fun x hx => ?_, fun l' hl' y hy => ?_⟩
  · rw [h.calm.lay_T]
    obtain ⟨l', c', h1, h2, h3⟩ := h.set j hj
    by_cases e : k = j
    · subst e
      rw [hk] at h1
      cases h1
      exact ⟨l ++ [c], c', List.getElem?_set_self hkl, List.mem_append_left _ h2, h3⟩
    · exact ⟨l', c', by rw [List.getElem?_set_ne e]; exact h1, h2, h3⟩
  · rw [h.calm.lay_A] at hx
    rcases List.mem_append.1 hx with h1 | h1
    · obtain ⟨l', c', h2, h3, h4, h5⟩ := h.lay x h1
      by_cases e : k = x.1
      · subst e
        rw [hk] at h2
        cases h2
        exact ⟨l ++ [c], c', List.getElem?_set_self hkl, List.mem_append_left _ h3, h4, by simp; omega⟩
      · exact ⟨l', c', by rw [List.getElem?_set_ne e]; exact h2, h3, h4, h5⟩
    · obtain rfl := List.mem_singleton.1 h1
      exact ⟨l ++ [c], c, List.getElem?_set_self hkl, by simp, rfl, by simp; omega⟩
  · rcases List.mem_or_eq_of_mem_set hl' with h1 | rfl
    · exact h.byte l' h1 y hy
    · rcases List.mem_append.1 hy with h2 | h2
      · exact h.byte l (mem_of_get hk) y h2
      · have := List.mem_singleton.1 h2
        omega

/-- THE THEOREM: behind a fall each byte of a track is one of its bytes; where there is one alone, all are the same. -/
theorem Ph2.fallen {L : List (List Nat)} {D : DS} {t : Nat} (h : Ph2 L D t) (p : Nat → Nat) : ∀ (k : Nat), k < 12 → ∃ (l X : List Nat), L[k]? = some l ∧ (D.fall p).T[k]? = some X ∧ (∀ y ∈ X, y ∈ l) ∧ (l.length = 1 → ∃ c, X = same c) := by
  have key : ∀ n, n ≤ D.A.length → ∀ (k : Nat), k < 12 → ∃ (l X : List Nat), L[k]? = some l ∧ (falls p D.T D.A n)[k]? = some X ∧ (∀ y ∈ X, y ∈ l) := by
    intro n
    induction n with
    | zero =>
      intro _ k hk
      obtain ⟨l, c, h1, h2, h3⟩ := h.set k hk
      exact ⟨l, same c, h1, h3, fun y hy => by rw [(List.mem_replicate.1 hy).2]; exact h2⟩
    | succ n ih =>
      intro hn k hk
      obtain ⟨l, X, h1, h2, h3⟩ := ih (by omega) k hk
      obtain ⟨x, hx⟩ := get_of_lt (l := D.A) (n := n) (by omega)
      rw [falls, getD_of hx]
      by_cases e : x.1 = k
      · obtain ⟨l', c', q1, q2, q3, _⟩ := h.lay x (mem_of_get hx)
        subst e
        rw [h1] at q1
        cases q1
        refine ⟨l, _, h1, List.getElem?_set_self (lt_of_get h2), fun y hy => ?_⟩
        rw [getD_of h2] at hy
        rcases List.mem_append.1 hy with h4 | h4
        · rw [q3] at h4
          rw [(List.mem_replicate.1 (List.mem_of_mem_take h4)).2]
          exact q2
        · exact h3 y (List.mem_of_mem_drop h4)
      · exact ⟨l, X, h1, by rw [List.getElem?_set_ne e]; exact h2, h3⟩
  intro k hk
  obtain ⟨l, X, h1, h2, h3⟩ := key D.A.length (Nat.le_refl _) k hk
  refine ⟨l, X, h1, h2, h3, fun hl => ?_⟩
  obtain ⟨l', c, q1, q2, q3⟩ := h.set k hk
  have hno : ∀ x ∈ D.A, x.1 ≠ k := fun x hx e => by
    obtain ⟨l2, c2, r1, _, _, r4⟩ := h.lay x hx
    rw [e, h1] at r1
    cases r1
    omega
  have := falls_other (part := p) (T := D.T) k hno D.A.length (Nat.le_refl _)
  rw [q3] at this
  have e : (falls p D.T D.A D.A.length)[k]? = some X := h2
  rw [e] at this
  exact ⟨c, by injection this⟩
end Go.Proofs.Ythbkhhcijekplaa
