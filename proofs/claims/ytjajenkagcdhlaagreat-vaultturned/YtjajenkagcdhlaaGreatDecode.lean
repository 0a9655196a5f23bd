/- What is laid as a posting is read as it. -/
import Derived.Test.YtjajenkagcdhlaaGreatOpenW
namespace Go.Proofs.YtjajenkagcdhlaaGreat
open Go.RowKit
set_option maxRecDepth 100000

theorem num_high2 (n : Nat) (t : List Nat) : num (high n 2 ++ t) 2 = n % 65536 := by
  show (0 * 256 + n / 256 ^ 1 % 256) * 256 + n / 256 ^ 0 % 256 = _
  simp only [Nat.pow_one, Nat.pow_zero, Nat.div_one]
  omega
theorem num_high4 (n : Nat) (t : List Nat) : num (high n 4 ++ t) 4 = n % 4294967296 := by
  show (((0 * 256 + n / 256 ^ 3 % 256) * 256 + n / 256 ^ 2 % 256) * 256 + n / 256 ^ 1 % 256) * 256 + n / 256 ^ 0 % 256 = _
  simp only [Nat.pow_one, Nat.pow_zero, Nat.div_one, Nat.reducePow]
  omega
theorem track_full {X : List Nat} (h : X.length = 84) : track X = X ++ (digits (sum1 X) ++ digits (sum2 X)) := by
  unfold track body
  rw [h, show zeros (84 - 84) = [] from rfl, List.append_nil]
/-- A track of 84 bytes is told by them. -/
theorem track_told {X Y : List Nat} (hx : X.length = 84) (hy : Y.length = 84) (h : (track X).take 84 = (track Y).take 84) : track X = track Y := by
  rw [track_full hx, track_full hy, List.take_left' hx, List.take_left' hy] at h
  rw [h]
theorem track_take84 {X : List Nat} (hx : X.length = 84) : (track X).take 84 = X := by rw [track_full hx, List.take_left' hx]

theorem piece_of (r n k m : Nat) (p : List Nat) (hp : p.length = 64) : ((track (leafText r n k m p)).drop 12).take 64 = p := by
  rw [track_full (leafText_length r n k m p hp)]
  unfold leafText
  rw [show high r 4 ++ (high n 4 ++ (high k 2 ++ (high m 2 ++ (p ++ (high n 4 ++ high r 4))))) ++ (digits (sum1 (high r 4 ++ (high n 4 ++ (high k 2 ++ (high m 2 ++ (p ++ (high n 4 ++ high r 4))))))) ++ digits (sum2 (high r 4 ++ (high n 4 ++ (high k 2 ++ (high m 2 ++ (p ++ (high n 4 ++ high r 4)))))))) = (high r 4 ++ high n 4 ++ high k 2 ++ high m 2) ++ (p ++ (high n 4 ++ high r 4 ++ (digits (sum1 (high r 4 ++ (high n 4 ++ (high k 2 ++ (high m 2 ++ (p ++ (high n 4 ++ high r 4))))))) ++ digits (sum2 (high r 4 ++ (high n 4 ++ (high k 2 ++ (high m 2 ++ (p ++ (high n 4 ++ high r 4))))))))))  by simp only [List.append_assoc], List.drop_left' (by simp [high_length]), List.take_left' hp]

theorem chunks (z : Nat) (xs : List Nat) : ∀ m, m * z ≤ xs.length → ((List.range m).map fun k => (xs.drop (k * z)).take z).flatten = xs.take (m * z)
  | 0, _ => by simp
  | m + 1, h => by
    rw [List.range_succ, List.map_append, List.flatten_append, chunks z xs m (by rw [Nat.add_mul] at h; omega)]
    simp only [List.map_cons, List.map_nil, List.flatten_cons, List.flatten_nil, List.append_nil]
    rw [Nat.add_mul, Nat.one_mul, List.take_add]
theorem flatten_drop {α : Type} (z : Nat) : ∀ (L : List (List α)) (k : Nat), (∀ b ∈ L, b.length = z) → L.flatten.drop (k * z) = (L.drop k).flatten
  | L, 0, _ => by simp
  | [], k + 1, _ => by simp
  | b :: L, k + 1, h => by
    have hb : b.length = z := h b (by simp)
    rw [List.flatten_cons, List.drop_succ_cons, ← flatten_drop z L k (fun x hx => h x (by simp [hx])), Nat.add_mul, Nat.one_mul, Nat.add_comm (k * z) z, ← List.drop_drop, List.drop_left' hb]

theorem leafOf {k : Nat} {e : List Ent} (h : ∀ x ∈ e, x.2.length = 96) (h0 : 0 < e.length) (hk : k < leavesOf e.length) : (((ptext e).drop (k * 64)).take 64).length = 64 := by
  rw [List.length_take, List.length_drop, ptext_length h h0]
  omega
theorem leaf_length {r n k : Nat} {e : List Ent} (h : ∀ x ∈ e, x.2.length = 96) (h0 : 0 < e.length) (hk : k < leavesOf e.length) : (leaf r n e k).length = 96 := by
  unfold leaf
  rw [track_length (by rw [leafText_length _ _ _ _ _ (leafOf h h0 hk)]; omega)]
theorem posting_length (r n : Nat) (e : List Ent) : (posting r n e).length = leavesOf e.length := by simp [posting]
theorem pieces_posting {r n : Nat} {e : List Ent} (h : ∀ x ∈ e, x.2.length = 96) (h0 : 0 < e.length) : pieces (posting r n e) = ptext e := by
  have e1 : (posting r n e).map (fun b => (b.drop 12).take 64) = (List.range (leavesOf e.length)).map fun k => ((ptext e).drop (k * 64)).take 64 := by
    unfold posting
    rw [List.map_map]
    apply List.map_congr_left
    intro k hk
    show ((leaf r n e k).drop 12).take 64 = _
    unfold leaf
    exact piece_of _ _ _ _ _ (leafOf h h0 (List.mem_range.1 hk))
  unfold pieces
  rw [e1, chunks 64 _ _ (by rw [ptext_length h h0]; exact Nat.le_refl _), List.take_of_length_le (by rw [ptext_length h h0]; exact Nat.le_refl _)]
theorem ent_at {e : List Ent} (h : ∀ x ∈ e, x.2.length = 96) (hk : ∀ x ∈ e, x.1 < 65536) {k : Nat} {x : Ent} (hx : e[k]? = some x) : entAt (ptext e) k = x := by
  have hlt := lt_of_get hx
  have hm := mem_of_get hx
  have hd : ((e.map entText).flatten ++ zeros (leavesOf e.length * 64 - (etext e).length)).drop (k * 98) = entText x ++ ((e.map entText).drop (k + 1)).flatten ++ zeros (leavesOf e.length * 64 - (etext e).length) := by
    have hl : ∀ b ∈ e.map entText, b.length = 98 := fun b hb => by
      obtain ⟨y, hy, rfl⟩ := List.mem_map.1 hb
      unfold entText
      rw [List.length_append, high_length, h y hy]
    rw [List.drop_append_of_le_length (by rw [flatten_length 98 _ hl, List.length_map]; exact Nat.mul_le_mul_right _ (by omega)), flatten_drop 98 _ _ hl]
    have hg : (e.map entText)[k]? = some (entText x) := by rw [List.getElem?_map, hx]; rfl
    obtain ⟨hl', e'⟩ := List.getElem?_eq_some_iff.1 hg
    rw [List.drop_eq_getElem_cons hl', e', List.flatten_cons]
  have hd2 : (ptext e).drop (2 + k * 98) = high x.1 2 ++ (x.2 ++ (((e.map entText).drop (k + 1)).flatten ++ zeros (leavesOf e.length * 64 - (etext e).length))) := by
    unfold ptext
    conv => lhs; unfold etext
    rw [List.append_assoc, ← List.drop_drop, List.drop_left' (high_length _ 2)]
    rw [show (high e.length 2 ++ (e.map entText).flatten) = etext e from rfl, hd]
    unfold entText
    simp only [List.append_assoc]
  have hd3 : (ptext e).drop (2 + k * 98 + 2) = ((ptext e).drop (2 + k * 98)).drop 2 := by rw [List.drop_drop]
  unfold entAt
  rw [hd3, hd2, List.take_left' (high_length _ 2), List.drop_left' (high_length _ 2), List.take_left' (h x hm)]
  have := num_high2 x.1 []
  rw [List.append_nil] at this
  rw [this, Nat.mod_eq_of_lt (hk x hm)]
theorem count_leaf {r n : Nat} {e : List Ent} (h : ∀ x ∈ e, x.2.length = 96) (h0 : 0 < e.length) (hl : e.length < 65536) : countOf (leaf r n e 0) = e.length := by
  have h2 := leavesOf_two h0
  have hp := piece_of r n 0 (leavesOf e.length) _ (leafOf (k := 0) h h0 (by omega))
  have hq : ((leaf r n e 0).drop 12).take 2 = high e.length 2 := by
    have e1 : ((leaf r n e 0).drop 12).take 2 = (((leaf r n e 0).drop 12).take 64).take 2 := by rw [List.take_take]; rfl
    rw [e1]
    unfold leaf
    rw [hp, List.take_take, Nat.zero_mul, List.drop_zero]
    unfold ptext etext
    rw [List.append_assoc]
    exact List.take_left' (high_length _ 2)
  unfold countOf
  rw [hq]
  have := num_high2 e.length []
  rw [List.append_nil] at this
  rw [this, Nat.mod_eq_of_lt hl]

/-- What is laid is read. -/
theorem readP_posting {e : List Ent} {home : Nat} (hg : Goes e home) (hh : home ≤ 5000) (r n : Nat) (t : List (List Nat)) (hl : e.length < 65536) : readP (posting r n e ++ t) r n home = some e := by
  have h96 : ∀ x ∈ e, x.2.length = 96 := fun x hx => (hg.1 x hx).2
  have h0 := hg.2.2
  have h2 := leavesOf_two h0
  have hp0 : (posting r n e ++ t)[0]? = some (leaf r n e 0) := by
    rw [List.getElem?_append_left (by rw [posting_length]; omega)]
    unfold posting
    rw [List.getElem?_map, List.getElem?_range (by omega)]
    rfl
  have hc := count_leaf (r := r) (n := n) h96 h0 hl
  have ht : (posting r n e ++ t).take (leavesOf e.length) = posting r n e := List.take_left' (posting_length r n e)
  have he : entsOf (posting r n e ++ t) e.length = e := by
    unfold entsOf
    rw [ht, pieces_posting h96 h0]
    apply List.ext_getElem?
    intro i
    rcases Nat.lt_or_ge i e.length with q | q
    · obtain ⟨x, hx⟩ := get_of_lt q
      rw [List.getElem?_map, List.getElem?_range q, hx]
      exact congrArg some (ent_at h96 (fun y hy => by have := (hg.1 y hy).1; omega) hx)
    · rw [List.getElem?_eq_none (by simpa using q), List.getElem?_eq_none q]
  rw [readP_eq hp0, hc, if_neg (by rw [List.length_append, posting_length]; omega), he, if_pos hg, ht, if_pos rfl]

/-- A page's last bytes: its round. -/
theorem at0_append {xs ys : List Nat} {k : Nat} (h : xs.length ≤ k) : at0 (xs ++ ys) k = at0 ys (k - xs.length) := by
  unfold at0
  rw [List.getD_eq_getElem?_getD, List.getD_eq_getElem?_getD, List.getElem?_append_right h]
theorem at0_left {xs ys : List Nat} {k : Nat} (h : k < xs.length) : at0 (xs ++ ys) k = at0 xs k := by
  unfold at0
  rw [List.getD_eq_getElem?_getD, List.getD_eq_getElem?_getD, List.getElem?_append_left h]
theorem at0_track {X : List Nat} (h : X.length = 84) {k : Nat} (hk : k < 84) : at0 (track X) k = at0 X k := by
  rw [track_full h, at0_left (by omega)]
theorem leafText_end (r n k m : Nat) (p : List Nat) (hp : p.length = 64) (i : Nat) (hi : 80 ≤ i) : at0 (leafText r n k m p) i = at0 (high r 4) (i - 80) := by
  unfold leafText
  rw [at0_append (by rw [high_length]; omega), at0_append (by rw [high_length, high_length]; omega), at0_append (by simp only [high_length]; omega), at0_append (by simp only [high_length]; omega), at0_append (by simp only [high_length, hp]; omega), at0_append (by simp only [high_length, hp]; omega)]
  simp only [high_length, hp]
  congr 1
theorem coverText_end (r l : Nat) (i : Nat) (hi : 80 ≤ i) : at0 (coverText r l) i = at0 (high r 4) (i - 80) := by
  unfold coverText
  rw [at0_append (by rw [high_length]; omega), at0_append (by simp only [high_length]; omega), at0_append (by simp only [high_length, zeros_length]; omega)]
  simp only [high_length, zeros_length]
  congr 1
/-- It ends as the pages and covers of a round below 256. -/
def Ends (b : List Nat) (s : Nat) : Prop := at0 b 80 = 0 ∧ at0 b 81 = 0 ∧ at0 b 82 = 0 ∧ at0 b 83 = s
theorem ends_of {b : List Nat} {r : Nat} (hr : r < 256) (h : ∀ i, 80 ≤ i → i < 84 → at0 b i = at0 (high r 4) (i - 80)) : Ends b r := by
  have e0 : at0 (high r 4) 0 = r / 256 ^ 3 % 256 := rfl
  have e1 : at0 (high r 4) 1 = r / 256 ^ 2 % 256 := rfl
  have e2 : at0 (high r 4) 2 = r / 256 ^ 1 % 256 := rfl
  have e3 : at0 (high r 4) 3 = r / 256 ^ 0 % 256 := rfl
  simp only [Nat.reducePow, Nat.pow_one, Nat.pow_zero, Nat.div_one] at e0 e1 e2 e3
  refine ⟨?_, ?_, ?_, ?_⟩
  · rw [h 80 (by omega) (by omega), e0]; omega
  · rw [h 81 (by omega) (by omega), e1]; omega
  · rw [h 82 (by omega) (by omega), e2]; omega
  · rw [h 83 (by omega) (by omega), e3]; omega
theorem leaf_ends {r n k : Nat} {e : List Ent} (hr : r < 256) (h : ∀ x ∈ e, x.2.length = 96) (h0 : 0 < e.length) (hk : k < leavesOf e.length) : Ends (leaf r n e k) r := by
  have hp := leafOf h h0 hk
  refine ends_of hr (fun i h1 h2 => ?_)
  unfold leaf
  rw [at0_track (leafText_length _ _ _ _ _ hp) h2, leafText_end _ _ _ _ _ hp i h1]
theorem cover_ends {r l : Nat} (hr : r < 256) : Ends (cover r l) r := by
  refine ends_of hr (fun i h1 h2 => ?_)
  unfold cover
  rw [at0_track (coverText_length r l) h2, coverText_end r l i h1]
/-- Where all pages end with a lower round no posting stands. -/
theorem readP_low {ps : List (List Nat)} {r n home : Nat} (hr : r < 256) (h : ∀ b, ps[0]? = some b → at0 b 83 ≠ r) : readP ps r n home = none := by
  cases ps with
  | nil => rfl
  | cons p q =>
    cases hq : readP (p :: q) r n home with
    | none => rfl
    | some e =>
      obtain ⟨hg, hl⟩ := readP_some hq
      rw [readP_eq (p := p) rfl] at hq
      split at hq
      · cases hq
      · split at hq
        · split at hq
          · rename_i hp
            injection hq with hq
            have h2 := leavesOf_two hg.2.2
            have hlen : (entsOf (p :: q) (countOf p)).length = countOf p := by simp [entsOf]
            rw [hq] at hp hlen
            have h0 := congrArg (fun l => l[0]?) hp
            rw [List.getElem?_take_of_lt (by rw [← hlen]; omega)] at h0
            unfold posting at h0
            rw [List.getElem?_map, List.getElem?_range (by omega)] at h0
            injection h0 with h0
            exact absurd (by rw [← h0]; exact (leaf_ends hr (fun x hx => (hg.1 x hx).2) hg.2.2 (by omega)).2.2.2) (h p rfl)
          · cases hq
        · cases hq
end Go.Proofs.YtjajenkagcdhlaaGreat
