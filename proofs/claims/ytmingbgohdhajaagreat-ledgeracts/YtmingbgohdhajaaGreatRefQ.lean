/- What the reference reads as a posting is what the program reads. -/
import Derived.Test.YtmingbgohdhajaaGreatDecode
namespace Go.Proofs.YtmingbgohdhajaaGreat
open Go.RowKit
set_option maxRecDepth 100000

/-- How many leaves a leaf says its posting has. -/
def manyOf (p : List Nat) : Nat := num ((p.drop 10).take 2) 2
theorem many_leaf {r n k : Nat} {e : List Ent} (h : ∀ x ∈ e, x.2.length = 96) (h0 : 0 < e.length) (hk : k < leavesOf e.length) (hl : leavesOf e.length < 65536) : manyOf (leaf r n e k) = leavesOf e.length := by
  have hq : ((leaf r n e k).drop 10).take 2 = high (leavesOf e.length) 2 := by
    unfold leaf
    have hX := leafText_length r n k (leavesOf e.length) _ (leafOf (k := k) h h0 hk)
    rw [track_full hX]
    generalize ((ptext e).drop (k * 64)).take 64 = p at *
    generalize digits (sum1 (leafText r n k (leavesOf e.length) p)) ++ digits (sum2 (leafText r n k (leavesOf e.length) p)) = Z
    generalize leavesOf e.length = m at *
    unfold leafText
    rw [show high r 4 ++ (high n 4 ++ (high k 2 ++ (high m 2 ++ (p ++ (high n 4 ++ high r 4))))) ++ Z = (high r 4 ++ high n 4 ++ high k 2) ++ (high m 2 ++ (p ++ (high n 4 ++ high r 4) ++ Z)) by simp only [List.append_assoc], List.drop_left' (by simp [high_length]), List.take_left' (high_length _ 2)]
  unfold manyOf
  rw [hq]
  have := num_high2 (leavesOf e.length) []
  rw [List.append_nil] at this
  rw [this, Nat.mod_eq_of_lt hl]
theorem entAt_length {S : List Nat} {k : Nat} (h : 2 + k * 98 + 98 ≤ S.length) : (entAt S k).2.length = 96 := by
  unfold entAt
  rw [List.length_take, List.length_drop]
  omega
theorem entsOf_length (ps : List (List Nat)) (c : Nat) : (entsOf ps c).length = c := by simp [entsOf]
theorem entsOf_all {ps : List (List Nat)} {c : Nat} (h : ∀ x ∈ ps, x.length = 96) (hb : ∀ x ∈ ps, ∀ y ∈ x, y < 256) (h0 : 0 < c) (hl : leavesOf c ≤ ps.length) : ∀ x ∈ entsOf ps c, x.2.length = 96 ∧ x.1 < 65536 ∧ ∀ y ∈ x.2, y < 256 := fun x hx => by
  obtain ⟨k, hk, rfl⟩ := List.mem_map.1 hx
  have hk := List.mem_range.1 hk
  have hp := pieces_length h (leavesOf c) hl
  have h2 := leavesOf_pos h0
  have hbs : ∀ y ∈ pieces (ps.take (leavesOf c)), y < 256 := fun y hy => by
    obtain ⟨q, hq, hy⟩ := List.mem_flatten.1 hy
    obtain ⟨z, hz, rfl⟩ := List.mem_map.1 hq
    exact hb z (List.mem_of_mem_take hz) y (List.mem_of_mem_drop (List.mem_of_mem_take hy))
  refine ⟨entAt_length (by rw [hp]; omega), ?_, fun y hy => hbs y (List.mem_of_mem_drop (List.mem_of_mem_take hy))⟩
  have := num_lt (xs := ((pieces (ps.take (leavesOf c))).drop (2 + k * 98)).take 2) (fun y hy => hbs y (List.mem_of_mem_drop (List.mem_of_mem_take hy))) 2
  simpa [entAt] using this
/-- What is read at all has its number of leaves on its first leaf. -/
theorem readP_many {ps : List (List Nat)} {p : List Nat} (hp : ps[0]? = some p) (h : ∀ x ∈ ps, x.length = 96) (hb : ∀ x ∈ ps, ∀ y ∈ x, y < 256) (hm : ps.length ≤ 5000) {r n home : Nat} (hr : readP ps r n home ≠ none) : manyOf p = leavesOf (countOf p) ∧ 1 ≤ manyOf p ∧ manyOf p ≤ ps.length := by
  rw [readP_eq hp] at hr
  split at hr
  · exact absurd rfl hr
  · rename_i h1
    split at hr
    · rename_i h2
      split at hr
      · rename_i h3
        have h0 : 0 < countOf p := by have := h2.2.2; rwa [entsOf_length] at this
        have hl2 := leavesOf_two h0
        have he := entsOf_all h hb h0 (by omega)
        have e1 : (posting r n (entsOf ps (countOf p)))[0]? = some (leaf r n (entsOf ps (countOf p)) 0) := by
          unfold posting
          rw [List.getElem?_map, List.getElem?_range (by rw [entsOf_length]; omega)]
          rfl
        rw [h3, List.getElem?_take_of_lt (by omega), hp] at e1
        injection e1 with e1
        have hh := many_leaf (r := r) (n := n) (k := 0) (fun x hx => (he x hx).1) (by rw [entsOf_length]; exact h0) (by rw [entsOf_length]; omega) (by rw [entsOf_length]; omega)
        rw [← e1, entsOf_length] at hh
        omega
      · exact absurd rfl hr
    · exact absurd rfl hr
theorem readP_bad {ps : List (List Nat)} {p : List Nat} (hp : ps[0]? = some p) (h : ∀ x ∈ ps, x.length = 96) (hb : ∀ x ∈ ps, ∀ y ∈ x, y < 256) (hm : ps.length ≤ 5000) {r n home : Nat} (hq : ¬ (manyOf p = leavesOf (countOf p) ∧ 1 ≤ manyOf p ∧ manyOf p ≤ ps.length)) : readP ps r n home = none :=
  Decidable.byContradiction fun hr => hq (readP_many hp h hb hm hr)
theorem readP_good {ps : List (List Nat)} {p : List Nat} (hp : ps[0]? = some p) {r n home : Nat} (h1 : manyOf p = leavesOf (countOf p)) (h2 : manyOf p ≤ ps.length) :
    readP ps r n home = if posting r n (entsOf ps (countOf p)) = ps.take (manyOf p) ∧ Goes (entsOf ps (countOf p)) home then some (entsOf ps (countOf p)) else none := by
  rw [readP_eq hp, if_neg (by omega), ← h1]
  by_cases a : Goes (entsOf ps (countOf p)) home
  · rw [if_pos a]
    by_cases b : posting r n (entsOf ps (countOf p)) = ps.take (manyOf p)
    · rw [if_pos b, if_pos ⟨b, a⟩]
    · rw [if_neg b, if_neg (fun c => b c.1)]
  · rw [if_neg a, if_neg (fun c => a c.2)]
theorem count_pieces {ps : List (List Nat)} {p : List Nat} (hp : ps[0]? = some p) (h : ∀ x ∈ ps, x.length = 96) {n : Nat} (hn : 0 < n) : num ((pieces (ps.take n)).take 2) 2 = countOf p := by
  cases ps with
  | nil => simp at hp
  | cons q qs =>
    simp at hp
    subst hp
    cases n with
    | zero => omega
    | succ n =>
      have e1 : (pieces ((q :: qs).take (n + 1))).take 2 = (q.drop 12).take 2 := by
        unfold pieces
        rw [List.take_succ_cons, List.map_cons, List.flatten_cons, List.take_append_of_le_length (by rw [List.length_take, List.length_drop, h q (by simp)]; omega), List.take_take]
        rfl
      rw [e1]
      rfl
end Go.Proofs.YtmingbgohdhajaaGreat
