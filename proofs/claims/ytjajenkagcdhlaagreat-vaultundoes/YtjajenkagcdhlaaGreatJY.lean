/- What is laid as a posting is read as it. -/
import Derived.Test.YtjajenkagcdhlaaGreatOpenW
namespace Go.Proofs.YtjajenkagcdhlaaGreat
open Go.RowKit
set_option maxRecDepth 100000

theorem num_high2 (n : Nat) (t : List Nat) : num (high n 2 ++ t) 2 = n % 65536 := by
  show (0 * 256 + n / 256 ^ 1 % 256) * 256 + n / 256 ^ 0 % 256 = _
  simp only [Nat.pow_one, Nat.pow_zero, Nat.div_one]
  omega
theorem num_high4 (n : Nat) (t : List Nat) : num (high n 4 ++ t) 4 = n % 4294967296 := by
  show (((0 * 256 + n / 256 ^ 3 % 256) * 256 + n / 256 ^ 2 % 256) * 256 + n / 256 ^ 1 % 256) * 256 + n / 256 ^ 0 % 256 = _
  simp only [Nat.pow_one, Nat.pow_zero, Nat.div_one, Nat.reducePow]
  omega
theorem track_full {X : List Nat} (h : X.length = 84) : track X = X ++ (digits (sum1 X) ++ digits (sum2 X)) := by
  unfold track body
  rw [h, show zeros (84 - 84) = [] from rfl, List.append_nil]
/-- A track of 84 bytes is told by them. -/
theorem track_told {X Y : List Nat} (hx : X.length = 84) (hy : Y.length = 84) (h : (track X).take 84 = (track Y).take 84) : track X = track Y := by
  rw [track_full hx, track_full hy, List.take_left' hx, List.take_left' hy] at h
  rw [h]
theorem track_take84 {X : List Nat} (hx : X.length = 84) : (track X).take 84 = X := by rw [track_full hx, List.take_left' hx]

theorem piece_of (r n k m : Nat) (p : List Nat) (hp : p.length = 64) : ((track (leafText r n k m p)).drop 12).take 64 = p := by
  rw [track_full (leafText_length r n k m p hp)]
  unfold leafText
  rw [show high r 4 ++ (high n 4 ++ (high k 2 ++ (high m 2 ++ (p ++ (high n 4 ++ high r 4))))) ++ (digits (sum1 (high r 4 ++ (high n 4 ++ (high k 2 ++ (high m 2 ++ (p ++ (high n 4 ++ high r 4))))))) ++ digits (sum2 (high r 4 ++ (high n 4 ++ (high k 2 ++ (high m 2 ++ (p ++ (high n 4 ++ high r 4)))))))) = (high r 4 ++ high n 4 ++ high k 2 ++ high m 2) ++ (p ++ (high n 4 ++ high r 4 ++ (digits (sum1 (high r 4 ++ (high n 4 ++ (high k 2 ++ (high m 2 ++ (p ++ (high n 4 ++ high r 4))))))) ++ digits (sum2 (high r 4 ++ (high n 4 ++ (high k 2 ++ (high m 2 ++ (p ++ (high n 4 ++ high r 4))))))))))  by simp only [List.append_assoc], List.drop_left' (by simp [high_length]), List.take_left' hp]

theorem chunks (z : Nat) (xs : List Nat) : ∀ m, m * z ≤ xs.length → ((List.range m).map fun k => (xs.drop (k * z)).take z).flatten = xs.take (m * z)
  | 0, _ => by simp
  | m + 1, h => by
    rw [List.range_succ, List.map_append, List.flatten_append, chunks z xs m (by rw [Nat.add_mul] at h; omega)]
    simp only [List.map_cons, List.map_nil, List.flatten_cons, List.flatten_nil, List.append_nil]
    rw [Nat.add_mul, Nat.one_mul, List.take_add]
theorem flatten_drop {α : Type} (z : Nat) : ∀ (L : List (List α)) (k : Nat), (∀ b ∈ L, b.length = z) → L.flatten.drop (k * z) = (L.drop k).flatten
  | L, 0, _ => by simp
  | [], k + 1, _ => by simp
  | b :: L, k + 1, h => by
    have hb : b.length = z := h b (by simp)
    rw [List.flatten_cons, List.drop_succ_cons, ← flatten_drop z L k (fun x hx => h x (by simp [hx])), Nat.add_mul, Nat.one_mul, Nat.add_comm (k * z) z, ← List.drop_drop, List.drop_left' hb]

theorem leafOf {k : Nat} {e : List Ent} (h : ∀ x ∈ e, x.2.length = 96) (h0 : 0 < e.length) (hk : k < leavesOf e.length) : (((ptext e).drop (k * 64)).take 64).length = 64 := by
  rw [List.length_take, List.length_drop, ptext_length h h0]
  omega
theorem leaf_length {r n k : Nat} {e : List Ent} (h : ∀ x ∈ e, x.2.length = 96) (h0 : 0 < e.length) (hk : k < leavesOf e.length) : (leaf r n e k).length = 96 := by
  unfold leaf
  rw [track_length (by rw [leafText_length _ _ _ _ _ (leafOf h h0 hk)]; omega)]
theorem posting_length (r n : Nat) (e : List Ent) : (posting r n e).length = leavesOf e.length := by simp [posting]
theorem pieces_posting {r n : Nat} {e : List Ent} (h : ∀ x ∈ e, x.2.length = 96) (h0 : 0 < e.length) : pieces (posting r n e) = ptext e := by
  have e1 : (posting r n e).map (fun b => (b.drop 12).take 64) = (List.range (leavesOf e.length)).map fun k => ((ptext e).drop (k * 64)).take 64 := by
    unfold posting
    rw [List.map_map]
    apply List.map_congr_left
    intro k hk
    show ((leaf r n e k).drop 12).take 64 = _
    unfold leaf
    exact piece_of _ _ _ _ _ (leafOf h h0 (List.mem_range.1 hk))
  unfold pieces
  rw [e1, chunks 64 _ _ (by rw [ptext_length h h0]; exact Nat.le_refl _), List.take_of_length_le (by rw [ptext_length h h0]; exact Nat.le_refl _)]
theorem ent_at {e : List Ent} (h : ∀ x ∈ e, x.2.length = 96) (hk : ∀ x ∈ e, x.1 < 65536) {k : Nat} {x : Ent} (hx : e[k]? = some x) : entAt (ptext e) k = x := by
  have hlt := lt_of_get hx
  have hm := mem_of_get hx
  have hd : ((e.map entText).flatten ++ zeros (leavesOf e.length * 64 - (etext e).length)).drop (k * 98) = entText x ++ ((e.map entText).drop (k + 1)).flatten ++ zeros (leavesOf e.length * 64 - (etext e).length) := by
    have hl : ∀ b ∈ e.map entText, b.length = 98 := fun b hb => by
      obtain ⟨y, hy, rfl⟩ := List.mem_map.1 hb
      unfold entText
      rw [List.length_append, high_length, h y hy]
    rw [List.drop_append_of_le_length (by rw [flatten_length 98 _ hl, List.length_map]; exact Nat.mul_le_mul_right _ (by omega)), flatten_drop 98 _ _ hl]
    have hg : (e.map entText)[k]? = some (entText x) := by rw [List.getElem?_map, hx]; rfl
    obtain ⟨hl', e'⟩ := List.getElem?_eq_some_iff.1 hg
    rw [List.drop_eq_getElem_cons hl', e', List.flatten_cons]
  have hd2 : (ptext e).drop (2 + k * 98) = high x.1 2 ++ (x.2 ++ (((e.map entText).drop (k + 1)).flatten ++ zeros (leavesOf e.length * 64 - (etext e).length))) := by
    unfold ptext
    conv => lhs; unfold etext
    rw [List.append_assoc, ← List.drop_drop, List.drop_left' (high_length _ 2)]
    rw [show (high e.length 2 ++ (e.map entText).flatten) = etext e from rfl, hd]
    unfold entText
    simp only [List.append_assoc]
  have hd3 : (ptext e).drop (2 + k * 98 + 2) = ((ptext e).drop (2 + k * 98)).drop 2 := by rw [List.drop_drop]
  unfold entAt
  rw [hd3, hd2, List.take_left' (high_length _ 2), List.drop_left' (high_length _ 2), List.take_left' (h x hm)]
  have := num_high2 x.1 []
  rw [List.append_nil] at this
  rw [this, Nat.mod_eq_of_lt (hk x hm)]
theorem count_leaf {r n : Nat} {e : List Ent} (h : ∀ x ∈ e, x.2.length = 96) (h0 : 0 < e.length) (hl : e.length < 65536) : countOf (leaf r n e 0) = e.length := by
  have h2 := leavesOf_two h0
  have hp := piece_of r n 0 (leavesOf e.length) _ (leafOf (k := 0) h h0 (by omega))
  have hq : ((leaf r n e 0).drop 12).take 2 = high e.length 2 := by
    have e1 : ((leaf r n e 0).drop 12).take 2 = (((leaf r n e 0).drop 12).take 64).take 2 := by rw [List.take_take]; rfl
    rw [e1]
    unfold leaf
    rw [hp, List.take_take, Nat.zero_mul, List.drop_zero]
    unfold ptext etext
    rw [List.append_assoc]
    exact List.take_left' (high_length _ 2)
  unfold countOf
  rw [hq]
  have := num_high2 e.length []
  rw [List.append_nil] at this
  rw [this, Nat.mod_eq_of_lt hl]

/-- What is laid is read. -/
theorem readP_posting {e : List Ent} {home : Nat} (hg : Goes e home) (hh : home ≤ 5000) (r n : Nat) (t : List (List Nat)) (hl : e.length < 65536) : readP (posting r n e ++ t) r n home = some e := by
  have h96 : ∀ x ∈ e, x.2.length = 96 := fun x hx => (hg.1 x hx).2
  have h0 := hg.2.2
  have h2 := leavesOf_two h0
  have hp0 : (posting r n e ++ t)[0]? = some (leaf r n e 0) := by
    rw [List.getElem?_append_left (by rw [posting_length]; omega)]
    unfold posting
    rw [List.getElem?_map, List.getElem?_range (by omega)]
    rfl
  have hc := count_leaf (r := r) (n := n) h96 h0 hl
  have ht : (posting r n e ++ t).take (leavesOf e.length) = posting r n e := List.take_left' (posting_length r n e)
  have he : entsOf (posting r n e ++ t) e.length = e := by
    unfold entsOf
    rw [ht, pieces_posting h96 h0]
    apply List.ext_getElem?
    intro i
    rcases Nat.lt_or_ge i e.length with q | q
    · obtain ⟨x, hx⟩ := get_of_lt q
      rw [List.getElem?_map, List.getElem?_range q, hx]
      exact congrArg some (ent_at h96 (fun y hy => by have := (hg.1 y hy).1; omega) hx)
    · rw [List.getElem?_eq_none (by simpa using q), List.getElem?_eq_none q]
  rw [readP_eq hp0, hc, if_neg (by rw [List.length_append, posting_length]; omega), he, if_pos hg, ht, if_pos rfl]

/-- A page's last bytes: its round. -/
theorem at0_append {xs ys : List Nat} {k : Nat} (h : xs.length ≤ k) : at0 (xs ++ ys) k = at0 ys (k - xs.length) := by
  unfold at0
  rw [List.getD_eq_getElem?_getD, List.getD_eq_getElem?_getD, List.getElem?_append_right h]
theorem at0_left {xs ys : List Nat} {k : Nat} (h : k < xs.length) : at0 (xs ++ ys) k = at0 xs k := by
  unfold at0
  rw [List.getD_eq_getElem?_getD, List.getD_eq_getElem?_getD, List.getElem?_append_left h]
theorem at0_track {X : List Nat} (h : X.length = 84) {k : Nat} (hk : k < 84) : at0 (track X) k = at0 X k := by
  rw [track_full h, at0_left (by omega)]
theorem leafText_end (r n k m : Nat) (p : List Nat) (hp : p.length = 64) (i : Nat) (hi : 80 ≤ i) : at0 (leafText r n k m p) i = at0 (high r 4) (i - 80) := by
  unfold leafText
  rw [at0_append (by rw [high_length]; omega), at0_append (by rw [high_length, high_length]; omega), at0_append (by simp only [high_length]; omega), at0_append (by simp only [high_length]; omega), at0_append (by simp only [high_length, hp]; omega), at0_append (by simp only [high_length, hp]; omega)]
  simp only [high_length, hp]
  congr 1
theorem coverText_end (r l : Nat) (i : Nat) (hi : 80 ≤ i) : at0 (coverText r l) i = at0 (high r 4) (i - 80) := by
  unfold coverText
  rw [at0_append (by rw [high_length]; omega), at0_append (by simp only [high_length]; omega), at0_append (by simp only [high_length, zeros_length]; omega)]
  simp only [high_length, zeros_length]
  congr 1
/-- It ends as the pages and covers of a round below 256. -/
def Ends (b : List Nat) (s : Nat) : Prop := at0 b 80 = 0 ∧ at0 b 81 = 0 ∧ at0 b 82 = 0 ∧ at0 b 83 = s
theorem ends_of {b : List Nat} {r : Nat} (hr : r < 256) (h : ∀ i, 80 ≤ i → i < 84 → at0 b i = at0 (high r 4) (i - 80)) : Ends b r := by
  have e0 : at0 (high r 4) 0 = r / 256 ^ 3 % 256 := rfl
  have e1 : at0 (high r 4) 1 = r / 256 ^ 2 % 256 := rfl
  have e2 : at0 (high r 4) 2 = r / 256 ^ 1 % 256 := rfl
  have e3 : at0 (high r 4) 3 = r / 256 ^ 0 % 256 := rfl
  simp only [Nat.reducePow, Nat.pow_one, Nat.pow_zero, Nat.div_one] at e0 e1 e2 e3
  refine ⟨?_, ?_, ?_, ?_⟩
  · rw [h 80 (by omega) (by omega), e0]; omega
  · rw [h 81 (by omega) (by omega), e1]; omega
  · rw [h 82 (by omega) (by omega), e2]; omega
  · rw [h 83 (by omega) (by omega), e3]; omega
theorem leaf_ends {r n k : Nat} {e : List Ent} (hr : r < 256) (h : ∀ x ∈ e, x.2.length = 96) (h0 : 0 < e.length) (hk : k < leavesOf e.length) : Ends (leaf r n e k) r := by
  have hp := leafOf h h0 hk
  refine ends_of hr (fun i h1 h2 => ?_)
  unfold leaf
  rw [at0_track (leafText_length _ _ _ _ _ hp) h2, leafText_end _ _ _ _ _ hp i h1]
theorem cover_ends {r l : Nat} (hr : r < 256) : Ends (cover r l) r := by
  refine ends_of hr (fun i h1 h2 => ?_)
  unfold cover
  rw [at0_track (coverText_length r l) h2, coverText_end r l i h1]
/-- Where all pages end with a lower round no posting stands. -/
theorem readP_low {ps : List (List Nat)} {r n home : Nat} (hr : r < 256) (h : ∀ b, ps[0]? = some b → at0 b 83 ≠ r) : readP ps r n home = none := by
  cases ps with
  | nil => rfl
  | cons p q =>
    cases hq : readP (p :: q) r n home with
    | none => rfl
    | some e =>
      obtain ⟨hg, hl⟩ := readP_some hq
      rw [readP_eq (p := p) rfl] at hq
      split at hq
      · cases hq
      · split at hq
        · split at hq
          · rename_i hp
            injection hq with hq
            have h2 := leavesOf_two hg.2.2
            have hlen : (entsOf (p :: q) (countOf p)).length = countOf p := by simp [entsOf]
            rw [hq] at hp hlen
            have h0 := congrArg (fun l => l[0]?) hp
            rw [List.getElem?_take_of_lt (by rw [← hlen]; omega)] at h0
            unfold posting at h0
            rw [List.getElem?_map, List.getElem?_range (by omega)] at h0
            injection h0 with h0
            exact absurd (by rw [← h0]; exact (leaf_ends hr (fun x hx => (hg.1 x hx).2) hg.2.2 (by omega)).2.2.2) (h p rfl)
          · cases hq
        · cases hq
end Go.Proofs.YtjajenkagcdhlaaGreat
/- Turns of a drum as if none broke; lays on tracks of which none is laid on twice. -/
namespace Go.Proofs.YtjajenkagcdhlaaGreat
open Go.RowKit
set_option maxRecDepth 100000

/-- What is settled, what is afloat. -/
abbrev TA := List (List Nat) × List (Nat × List Nat)
def ideal (s : TA) : Trn → TA
  | .lay k b => (s.1, s.2 ++ [(k, b)])
  | .settle => (over s.1 s.2, [])
def ideals (s : TA) (ts : List Trn) : TA := ts.foldl ideal s
def DS.ta (D : DS) : TA := (D.T, D.A)
theorem ideals_append (s : TA) (ts us : List Trn) : ideals s (ts ++ us) = ideals (ideals s ts) us := by simp [ideals]
theorem step_ta {D : DS} {t : Trn} (h : (D.step t).down = false) : (D.step t).ta = ideal D.ta t := by
  rw [DS.step_goes] at h
  have hg : D.goes = true := by simpa using h
  cases t with
  | lay k b => show ((D.lay k b).T, (D.lay k b).A) = (D.T, D.A ++ [(k, b)]); unfold DS.lay; rw [hg]; simp only [if_true, DS.turned_T]
  | settle => show (D.settle.T, D.settle.A) = (over D.T D.A, []); unfold DS.settle; rw [hg]; rfl
theorem step_ta_down {D : DS} {t : Trn} (h : (D.step t).down = true) : (D.step t).ta = D.ta := by
  rw [DS.step_goes] at h
  have hg : D.goes = false := by simpa using h
  cases t with
  | lay k b => show ((D.lay k b).T, (D.lay k b).A) = (D.T, D.A); unfold DS.lay; rw [hg]; simp only [Bool.false_eq_true, if_false, DS.turned_T, DS.turned_A]
  | settle => show (D.settle.T, D.settle.A) = (D.T, D.A); unfold DS.settle; rw [hg]; simp only [Bool.false_eq_true, if_false, DS.turned_T, DS.turned_A]
/-- What turns leave, if the drum breaks on their way. -/
theorem run_ta (D : DS) : ∀ ts : List Trn, ∃ j, j ≤ ts.length ∧ (D.run ts).ta = ideals D.ta (ts.take j) ∧ ((D.run ts).down = false → j = ts.length) := fun ts => by
  induction ts generalizing D with
  | nil => exact ⟨0, Nat.le_refl _, rfl, fun _ => rfl⟩
  | cons t r ih =>
    rw [DS.run_cons]
    cases hd : (D.step t).down with
    | true =>
      rw [DS.run_down hd]
      exact ⟨0, Nat.zero_le _, step_ta_down hd, fun q => by rw [hd] at q; cases q⟩
    | false =>
      obtain ⟨j, h1, h2, h3⟩ := ih (D.step t)
      exact ⟨j + 1, by rw [List.length_cons]; omega, by rw [h2, step_ta hd]; rfl, fun q => by rw [h3 q]; rfl⟩
/-- No break is set, and none was. -/
structure Quiet (D : DS) : Prop where
  left : D.left = none
  down : D.down = false
theorem Quiet.goes {D : DS} (h : Quiet D) : D.goes = true := goes_yes h.down (by rw [h.left]; simp)
theorem Quiet.step {D : DS} (h : Quiet D) (t : Trn) : Quiet (D.step t) := by
  have hg := h.goes
  refine ⟨?_, by rw [DS.step_goes, hg]; rfl⟩
  cases t with
  | lay k b => show (D.lay k b).left = none; unfold DS.lay DS.turned; rw [hg]; simp only [if_true]; rw [h.left]; rfl
  | settle => show D.settle.left = none; unfold DS.settle DS.turned; rw [hg]; simp only [if_true]; rw [h.left]; rfl
theorem Quiet.run {D : DS} (h : Quiet D) : ∀ ts : List Trn, Quiet (D.run ts) := fun ts => by
  induction ts generalizing D with
  | nil => exact h
  | cons t r ih => rw [DS.run_cons]; exact ih (h.step t)
theorem Quiet.ta {D : DS} (h : Quiet D) (ts : List Trn) : (D.run ts).ta = ideals D.ta ts := by
  obtain ⟨j, _, h2, h3⟩ := run_ta D ts
  rw [h2, h3 (h.run ts).down, List.take_length]

theorem over_mem {T : List (List Nat)} : ∀ {A : List (Nat × List Nat)}, (A.map (·.1)).Nodup → ∀ x ∈ A, x.1 < T.length → (over T A)[x.1]? = some x.2 := fun {A} => by
  induction A generalizing T with
  | nil => intro _ x hx; cases hx
  | cons y r ih =>
    intro nd x hx hl
    rw [List.map_cons, List.nodup_cons] at nd
    show (over (T.set y.1 y.2) r)[x.1]? = _
    rcases List.mem_cons.1 hx with rfl | hx
    · rw [over_other _ _ _ (fun z hz e => nd.1 (by rw [← e]; exact List.mem_map.2 ⟨z, hz, rfl⟩)), List.getElem?_set_self hl]
    · exact ih nd.2 x hx (by rw [List.length_set]; exact hl)
theorem nodup_get {α : Type} : ∀ {L : List α}, L.Nodup → ∀ {i j : Nat} {a : α}, L[i]? = some a → L[j]? = some a → i = j
  | [], _, i, j, a, h, _ => by simp at h
  | x :: L, nd, 0, 0, a, _, _ => rfl
  | x :: L, nd, 0, j + 1, a, h1, h2 => by
    rw [List.nodup_cons] at nd
    simp only [List.getElem?_cons_zero, Option.some.injEq, List.getElem?_cons_succ] at h1 h2
    subst h1
    exact absurd (List.mem_of_getElem? h2) nd.1
  | x :: L, nd, i + 1, 0, a, h1, h2 => by
    rw [List.nodup_cons] at nd
    simp only [List.getElem?_cons_zero, Option.some.injEq, List.getElem?_cons_succ] at h1 h2
    subst h2
    exact absurd (List.mem_of_getElem? h1) nd.1
  | x :: L, nd, i + 1, j + 1, a, h1, h2 => by
    rw [List.nodup_cons] at nd
    simp only [List.getElem?_cons_succ] at h1 h2
    rw [nodup_get nd.2 h1 h2]
theorem falls_mem {p : Nat → Nat} {T : List (List Nat)} {A : List (Nat × List Nat)} (nd : (A.map (·.1)).Nodup) {i : Nat} {x : Nat × List Nat} (hx : A[i]? = some x) {t : List Nat} (ht : T[x.1]? = some t) : ∀ n, i < n → n ≤ A.length → (falls p T A n)[x.1]? = some (mix (p i) x.2 t) := fun n => by
  have hl := lt_of_get ht
  have hpre : ∀ m, m ≤ i → (falls p T A m)[x.1]? = some t := fun m hm => by
    induction m with
    | zero => exact ht
    | succ m ih =>
      obtain ⟨y, hy⟩ := get_of_lt (l := A) (n := m) (by have := lt_of_get hx; omega)
      rw [falls, getD_of hy, List.getElem?_set_ne (fun e => by
        have h1 : (A.map (·.1))[m]? = some x.1 := by rw [List.getElem?_map, hy, ← e]; rfl
        have h2 : (A.map (·.1))[i]? = some x.1 := by rw [List.getElem?_map, hx]; rfl
        have := nodup_get nd h1 h2
        omega)]
      exact ih (by omega)
  induction n with
  | zero => intro h; omega
  | succ n ih =>
    intro hi hn
    by_cases e : i = n
    · subst e
      rw [falls, getD_of hx, List.getElem?_set_self (by rw [falls_length]; exact hl), getD_of (hpre i (Nat.le_refl _))]
    · obtain ⟨y, hy⟩ := get_of_lt (l := A) (n := n) (by omega)
      rw [falls, getD_of hy, List.getElem?_set_ne (fun q => by
        have h1 : (A.map (·.1))[n]? = some x.1 := by rw [List.getElem?_map, hy, ← q]; rfl
        have h2 : (A.map (·.1))[i]? = some x.1 := by rw [List.getElem?_map, hx]; rfl
        have := nodup_get nd h1 h2
        omega)]
      exact ih (by omega) (by omega)

/-- Lays of what is written, home. -/
def homeA (l : Nat) : Nat → Wri → List (Nat × List Nat)
  | _, [] => []
  | k, none :: ws => homeA l (k + 1) ws
  | k, some b :: ws => (2 + l + k, b) :: homeA l (k + 1) ws
theorem ideals_home (l : Nat) : ∀ (k : Nat) (ws : Wri) (s : TA), ideals s (homeT l k ws) = (s.1, s.2 ++ homeA l k ws)
  | k, [], s => by simp [homeT, homeA, ideals]
  | k, none :: ws, s => ideals_home l (k + 1) ws s
  | k, some b :: ws, s => by
    show ideals (ideal s (.lay (2 + l + k) b)) (homeT l (k + 1) ws) = _
    rw [ideals_home l (k + 1) ws]
    show (s.1, s.2 ++ [(2 + l + k, b)] ++ homeA l (k + 1) ws) = (s.1, s.2 ++ ((2 + l + k, b) :: homeA l (k + 1) ws))
    simp
theorem homeA_mem (l : Nat) : ∀ (k : Nat) (ws : Wri) (x : Nat × List Nat), x ∈ homeA l k ws ↔ ∃ j, ws[j]? = some (some x.2) ∧ x.1 = 2 + l + k + j
  | k, [], x => by simp [homeA]
  | k, none :: ws, x => by
    show x ∈ homeA l (k + 1) ws ↔ _
    rw [homeA_mem l (k + 1) ws x]
    constructor
    · rintro ⟨j, h1, h2⟩; exact ⟨j + 1, h1, by omega⟩
    · rintro ⟨j, h1, h2⟩
      cases j with
      | zero => simp at h1
      | succ j => exact ⟨j, h1, by omega⟩
  | k, some b :: ws, x => by
    show x ∈ (2 + l + k, b) :: homeA l (k + 1) ws ↔ _
    rw [List.mem_cons, homeA_mem l (k + 1) ws x]
    constructor
    · rintro (rfl | ⟨j, h1, h2⟩)
      · exact ⟨0, rfl, rfl⟩
      · exact ⟨j + 1, h1, by omega⟩
    · rintro ⟨j, h1, h2⟩
      cases j with
      | zero =>
        left
        obtain ⟨x1, x2⟩ := x
        simp only [List.getElem?_cons_zero, Option.some.injEq] at h1
        simp only at h2
        rw [h2, h1]
        rfl
      | succ j => exact .inr ⟨j, h1, by omega⟩
theorem homeA_nodup (l : Nat) : ∀ (k : Nat) (ws : Wri), ((homeA l k ws).map (·.1)).Nodup
  | k, [] => by simp [homeA]
  | k, none :: ws => homeA_nodup l (k + 1) ws
  | k, some b :: ws => by
    show ((2 + l + k) :: (homeA l (k + 1) ws).map (·.1)).Nodup
    rw [List.nodup_cons]
    refine ⟨fun h => ?_, homeA_nodup l (k + 1) ws⟩
    obtain ⟨x, hx, e⟩ := List.mem_map.1 h
    obtain ⟨j, _, h2⟩ := (homeA_mem l (k + 1) ws x).1 hx
    omega
/-- Lays of leaves, one behind the other. -/
def leafA : Nat → List (List Nat) → List (Nat × List Nat)
  | _, [] => []
  | k, b :: bs => (k, b) :: leafA (k + 1) bs
theorem ideals_leaf : ∀ (k : Nat) (bs : List (List Nat)) (s : TA), ideals s (leafT k bs) = (s.1, s.2 ++ leafA k bs)
  | k, [], s => by simp [leafT, leafA, ideals]
  | k, b :: bs, s => by
    show ideals (ideal s (.lay k b)) (leafT (k + 1) bs) = _
    rw [ideals_leaf (k + 1) bs]
    show (s.1, s.2 ++ [(k, b)] ++ leafA (k + 1) bs) = (s.1, s.2 ++ ((k, b) :: leafA (k + 1) bs))
    simp
theorem leafA_get : ∀ (k : Nat) (bs : List (List Nat)) (i : Nat), (leafA k bs)[i]? = (bs[i]?).map fun b => (k + i, b)
  | k, [], i => by simp [leafA]
  | k, b :: bs, 0 => rfl
  | k, b :: bs, i + 1 => by
    show (leafA (k + 1) bs)[i]? = _
    rw [leafA_get (k + 1) bs i, List.getElem?_cons_succ, show k + 1 + i = k + (i + 1) by omega]
theorem leafA_length (k : Nat) (bs : List (List Nat)) : (leafA k bs).length = bs.length := by
  induction bs generalizing k with
  | nil => rfl
  | cons b bs ih => show (leafA (k + 1) bs).length + 1 = _; rw [ih]; rfl
theorem leafA_append (k : Nat) : ∀ (bs cs : List (List Nat)), leafA k (bs ++ cs) = leafA k bs ++ leafA (k + bs.length) cs := fun bs => by
  induction bs generalizing k with
  | nil => intro cs; rfl
  | cons b bs ih => intro cs; show (k, b) :: leafA (k + 1) (bs ++ cs) = _; rw [ih, List.length_cons, show k + 1 + bs.length = k + (bs.length + 1) by omega]; rfl
theorem leafA_mem {k : Nat} {bs : List (List Nat)} {x : Nat × List Nat} (h : x ∈ leafA k bs) : ∃ j, bs[j]? = some x.2 ∧ x.1 = k + j := by
  obtain ⟨j, hj⟩ := List.getElem?_of_mem h
  rw [leafA_get] at hj
  cases hb : bs[j]? with
  | none => rw [hb] at hj; cases hj
  | some b => rw [hb] at hj; injection hj with hj; subst hj; exact ⟨j, hb, rfl⟩
theorem leafA_nodup : ∀ (k : Nat) (bs : List (List Nat)), ((leafA k bs).map (·.1)).Nodup
  | k, [] => by simp [leafA]
  | k, b :: bs => by
    show (k :: (leafA (k + 1) bs).map (·.1)).Nodup
    rw [List.nodup_cons]
    refine ⟨fun h => ?_, leafA_nodup (k + 1) bs⟩
    obtain ⟨x, hx, e⟩ := List.mem_map.1 h
    obtain ⟨j, _, h2⟩ := leafA_mem hx
    omega
/-- Leaves laid over tracks. -/
theorem over_leaf {T : List (List Nat)} {k : Nat} {bs : List (List Nat)} (h : k + bs.length ≤ T.length) (i : Nat) : (over T (leafA k bs))[i]? = if k ≤ i ∧ i < k + bs.length then bs[i - k]? else T[i]? := by
  by_cases hi : k ≤ i ∧ i < k + bs.length
  · rw [if_pos hi]
    obtain ⟨b, hb⟩ := get_of_lt (l := bs) (n := i - k) (by omega)
    have hm : (k + (i - k), b) ∈ leafA k bs := mem_of_get (n := i - k) (by rw [leafA_get, hb]; rfl)
    have := over_mem (T := T) (leafA_nodup k bs) _ hm (by simp only; omega)
    simp only at this
    rw [show k + (i - k) = i by omega] at this
    rw [this, hb]
  · rw [if_neg hi]
    refine over_other _ _ _ (fun x hx e => ?_)
    obtain ⟨j, h1, h2⟩ := leafA_mem hx
    have := lt_of_get h1
    omega
/-- What is written, laid home. -/
theorem over_home {T : List (List Nat)} {l : Nat} {ws : Wri} (h : 2 + l + ws.length ≤ T.length) (i : Nat) : (over T (homeA l 0 ws))[i]? = if 2 + l ≤ i then (match ws.getD (i - (2 + l)) none with | some b => some b | none => T[i]?) else T[i]? := by
  by_cases hi : 2 + l ≤ i
  · rw [if_pos hi]
    cases hw : ws.getD (i - (2 + l)) none with
    | some b =>
      have hb : ws[i - (2 + l)]? = some (some b) := by
        rw [List.getD_eq_getElem?_getD] at hw
        cases hq : ws[i - (2 + l)]? with
        | none => rw [hq] at hw; cases hw
        | some y => rw [hq] at hw; exact congrArg some hw
      have hl := lt_of_get hb
      have hm : (i, b) ∈ homeA l 0 ws := (homeA_mem l 0 ws (i, b)).2 ⟨i - (2 + l), hb, by simp only; omega⟩
      exact over_mem (homeA_nodup l 0 ws) _ hm (by simp only; omega)
    | none =>
      refine over_other _ _ _ (fun x hx e => ?_)
      obtain ⟨j, h1, h2⟩ := (homeA_mem l 0 ws x).1 hx
      have ej : i - (2 + l) = j := by omega
      rw [List.getD_eq_getElem?_getD, ej, h1] at hw
      cases hw
  · rw [if_neg hi]
    refine over_other _ _ _ (fun x hx e => ?_)
    obtain ⟨j, h1, h2⟩ := (homeA_mem l 0 ws x).1 hx
    omega
end Go.Proofs.YtjajenkagcdhlaaGreat
/- Tracks of which a ledger can be opened, and what is home then. -/
namespace Go.Proofs.YtjajenkagcdhlaaGreat
open Go.RowKit
set_option maxRecDepth 100000

def leavesT (T : List (List Nat)) (l : Nat) : List (List Nat) := (T.drop 2).take l
theorem leavesT_get (T : List (List Nat)) (l i : Nat) : (leavesT T l)[i]? = if i < l then T[2 + i]? else none := by
  unfold leavesT
  by_cases h : i < l
  · rw [if_pos h, List.getElem?_take_of_lt h, List.getElem?_drop]
  · rw [if_neg h, List.getElem?_eq_none (by rw [List.length_take]; omega)]
/-- Postings, one behind the other, the first one with the number n. -/
def posts (r : Nat) : Nat → List (List Ent) → List (List Nat)
  | _, [] => []
  | n, e :: es => posting r n e ++ posts r (n + 1) es
theorem posts_append (r : Nat) : ∀ (n : Nat) (es fs : List (List Ent)), posts r n (es ++ fs) = posts r n es ++ posts r (n + es.length) fs
  | n, [], fs => rfl
  | n, e :: es, fs => by
    show posting r n e ++ posts r (n + 1) (es ++ fs) = _
    rw [posts_append r (n + 1) es fs, List.length_cons, show n + 1 + es.length = n + (es.length + 1) by omega, ← List.append_assoc]
    rfl
def tookAll (ws : Wri) (es : List (List Ent)) : Wri := es.foldl took ws
theorem tookAll_length (ws : Wri) : ∀ es : List (List Ent), (tookAll ws es).length = ws.length := fun es => by
  induction es generalizing ws with
  | nil => rfl
  | cons e es ih => show (tookAll (took ws e) es).length = _; rw [ih, took_length]
theorem tookAll_snoc (ws : Wri) (es : List (List Ent)) (e : List Ent) : tookAll ws (es ++ [e]) = took (tookAll ws es) e := by simp [tookAll]
theorem goes_len {e : List Ent} {home : Nat} (h : Goes e home) (_hh : home ≤ 5000) (hl : leavesOf e.length ≤ 4096) : e.length < 65536 := by
  have := leavesOf_pos h.2.2
  omega
theorem readAll_posts {r home : Nat} (hh : home ≤ 5000) : ∀ (es : List (List Ent)) (n : Nat) (ws : Wri) (f : Nat) (rest : List (List Nat)), (∀ e ∈ es, Goes e home) → readP rest r (n + es.length) home = none → (posts r n es ++ rest).length ≤ f → (posts r n es ++ rest).length ≤ 4096 → readAll f (posts r n es ++ rest) r n home ws = tookAll ws es
  | [], n, ws, f, rest, _, hr, _, _ => readAll_none f hr
  | e :: es, n, ws, f, rest, hg, hr, hf, h4 => by
    have hge := hg e (by simp)
    have h2 := leavesOf_two hge.2.2
    have hp : posts r n (e :: es) ++ rest = posting r n e ++ (posts r (n + 1) es ++ rest) := by show (posting r n e ++ posts r (n + 1) es) ++ rest = _; rw [List.append_assoc]
    rw [hp] at hf h4 ⊢
    have hl := posting_length r n e
    rw [List.length_append, hl] at hf h4
    cases f with
    | zero => omega
    | succ f =>
      have hq := readP_posting hge hh r n (posts r (n + 1) es ++ rest) (goes_len hge hh (by omega))
      unfold readAll
      rw [hq]
      simp only
      rw [List.drop_left' hl]
      exact readAll_posts hh es (n + 1) (took ws e) f rest (fun x hx => hg x (by simp [hx])) (by rw [List.length_cons] at hr; rw [show n + 1 + es.length = n + (es.length + 1) by omega]; exact hr) (by omega) (by omega)

/-- A home track: as it is written, or as it lies. -/
def homeOf (T : List (List Nat)) (l : Nat) (ws : Wri) (k : Nat) : List Nat := match ws.getD k none with
  | some b => b
  | none => T.getD (2 + l + k) []
/-- A cover that does not count beside that of round r. -/
def OldC (r l : Nat) (o : List Nat) : Prop := (∃ s, Ends o s ∧ s < r) ∨ (o.take 84 = (cover (r + 1) l).take 84 ∧ o ≠ cover (r + 1) l)

structure RecE (T : List (List Nat)) (l r : Nat) (H : List (List Nat)) (es : List (List Ent)) : Prop where
  trk : ∀ b ∈ T, Trk b
  len : T.length = 2 + l + H.length
  many : T.length ≤ 4096
  lv : 5 ≤ l
  hm : 2 ≤ H.length
  r1 : 1 ≤ r
  r2 : r < 255
  cov : T[r % 2]? = some (cover r l)
  oth : ∃ o, T[(r + 1) % 2]? = some o ∧ OldC r l o
  low : ∀ i, i < l → ∃ b, T[2 + i]? = some b ∧ at0 b 83 ≤ r
  goes : ∀ e ∈ es, Goes e H.length
  etrk : ∀ e ∈ es, ∀ x ∈ e, Trk x.2
  pages : ∃ rest, leavesT T l = posts r 1 es ++ rest ∧ readP rest r (es.length + 1) H.length = none
  home : ∀ k, k < H.length → H[k]? = some (homeOf T l (tookAll (List.replicate H.length none) es) k)

theorem roundC_cover {r l : Nat} (h : r < 4294967296) : roundC (cover r l) = r := by
  unfold roundC cover
  rw [track_full (coverText_length r l)]
  unfold coverText
  rw [List.append_assoc, num_high4, Nat.mod_eq_of_lt h]
theorem leavesC_cover {r l : Nat} (h : l < 65536) : leavesC (cover r l) = l := by
  unfold leavesC cover
  rw [track_full (coverText_length r l)]
  unfold coverText
  rw [List.append_assoc, List.drop_left' (high_length _ 4), List.append_assoc, num_high2, Nat.mod_eq_of_lt h]
theorem readC_cover {r l n : Nat} (hr : r < 4294967296) (h1 : 1 ≤ r) (hl : l < 65536) (hf : fits l n = true) : readC (cover r l) (r % 2) n = true := by
  have e1 := roundC_cover (r := r) (l := l) hr
  have e2 := leavesC_cover (r := r) (l := l) hl
  unfold roundC at e1
  unfold leavesC at e2
  unfold readC
  rw [e1, e2, hf]
  simp
  omega
theorem readC_is {b : List Nat} {k n : Nat} (h : readC b k n = true) : b = cover (roundC b) (leavesC b) := by
  unfold readC at h
  rw [Bool.and_eq_true, Bool.and_eq_true, Bool.and_eq_true] at h
  exact of_decide_eq_true h.2.2.2
theorem oldC_low {r l k n : Nat} {o : List Nat} (hb : ∀ x ∈ o, x < 256) (h : OldC r l o) (hr : readC o k n = true) : roundC o < r := by
  have hi := readC_is hr
  have hlt : roundC o < 4294967296 := num_lt hb 4
  rcases h with ⟨s, ⟨h0, h1, h2, h3⟩, hs⟩ | ⟨h84, hne⟩
  · have e : ∀ i, 80 ≤ i → i < 84 → at0 o i = at0 (high (roundC o) 4) (i - 80) := fun i hi1 hi2 => by
      conv => lhs; rw [hi]
      unfold cover
      rw [at0_track (coverText_length _ _) hi2, coverText_end _ _ i hi1]
    have e0 := e 80 (by omega) (by omega)
    have e1 := e 81 (by omega) (by omega)
    have e2 := e 82 (by omega) (by omega)
    have e3 := e 83 (by omega) (by omega)
    have f0 : at0 (high (roundC o) 4) 0 = roundC o / 16777216 % 256 := rfl
    have f1 : at0 (high (roundC o) 4) 1 = roundC o / 65536 % 256 := rfl
    have f2 : at0 (high (roundC o) 4) 2 = roundC o / 256 % 256 := rfl
    have f3 : at0 (high (roundC o) 4) 3 = roundC o / 1 % 256 := rfl
    simp only [Nat.sub_self, show 81 - 80 = 1 from rfl, show 82 - 80 = 2 from rfl, show 83 - 80 = 3 from rfl] at e0 e1 e2 e3
    rw [f0, h0] at e0
    rw [f1, h1] at e1
    rw [f2, h2] at e2
    rw [f3, h3, Nat.div_one] at e3
    omega
  · exfalso
    apply hne
    rw [hi]
    unfold cover
    refine track_told (coverText_length _ _) (coverText_length _ _) ?_
    have := h84
    rw [hi] at this
    exact this

section
variable {D : DS} {l r : Nat} {H : List (List Nat)} {es : List (List Ent)}
theorem RecE.fits {T : List (List Nat)} (R : RecE T l r H es) : fits l T.length = true := by
  unfold Go.Proofs.YtjajenkagcdhlaaGreat.fits
  have := R.len
  have := R.hm
  have := R.lv
  exact decide_eq_true ⟨R.lv, by omega⟩
theorem RecE.coverK (R : RecE D.seen l r H es) : coverK D = some (r % 2) := by
  have hlen : D.T.length = D.seen.length := (DS.seen_length D).symm
  obtain ⟨o, ho, hO⟩ := R.oth
  have hcl : l < 65536 := by have := R.len; have := R.many; omega
  have hrc : readC (cover r l) (r % 2) D.T.length = true := readC_cover (by have := R.r2; omega) R.r1 hcl (by rw [hlen]; exact R.fits)
  have hrr : roundC (cover r l) = r := roundC_cover (by have := R.r2; omega)
  have hlow : ∀ k, readC o k D.T.length = true → roundC o < r := fun k q => oldC_low (R.trk o (mem_of_get ho)).byte hO q
  unfold Go.Proofs.YtjajenkagcdhlaaGreat.coverK
  have h2 : r % 2 = 0 ∨ r % 2 = 1 := by omega
  rcases h2 with h2 | h2
  · have h3 : (r + 1) % 2 = 1 := by omega
    have c0 := R.cov
    rw [h2] at c0 hrc ⊢
    rw [h3] at ho
    simp only [getD_of c0, getD_of ho]
    by_cases q : readC o 1 D.T.length = true
    · rw [if_pos q, if_pos hrc, if_pos (by rw [hrr]; exact .inl (hlow 1 q))]
    · rw [if_neg q, if_pos hrc]
  · have h3 : (r + 1) % 2 = 0 := by omega
    have c0 := R.cov
    rw [h2] at c0 hrc ⊢
    rw [h3] at ho
    simp only [getD_of c0, getD_of ho]
    rw [if_pos hrc]
    by_cases q : readC o 0 D.T.length = true
    · rw [if_pos q, if_neg (by rw [hrr]; have := hlow 0 q; omega)]
    · rw [if_neg q]
theorem RecE.counted (R : RecE D.seen l r H es) : LS.counted D (r % 2) = { D := D, leaves := l, round := r, posts := 0, laid := 0, ws := List.replicate H.length none, lost := false } := by
  have hcl : l < 65536 := by have := R.len; have := R.many; omega
  unfold LS.counted
  simp only [getD_of R.cov, roundC_cover (show r < 4294967296 by have := R.r2; omega), leavesC_cover hcl]
  congr 2
  have := R.len
  rw [DS.seen_length] at this
  omega
theorem RecE.reads (R : RecE D.seen l r H es) : (LS.counted D (r % 2)).reads = { D := D, leaves := l, round := r, posts := 0, laid := 0, ws := tookAll (List.replicate H.length none) es, lost := false } := by
  rw [R.counted]
  unfold LS.reads LS.pages
  simp only
  obtain ⟨rest, h1, h2⟩ := R.pages
  have hl : (leavesT D.seen l).length = l := by
    unfold leavesT
    rw [List.length_take, List.length_drop, R.len]
    omega
  rw [show (D.seen.drop 2).take l = leavesT D.seen l from rfl]
  congr 1
  rw [List.length_replicate]
  have h4 : (leavesT D.seen l).length ≤ 4096 := by rw [hl]; have := R.len; have := R.many; omega
  rw [h1] at h4 ⊢
  exact readAll_posts (by have := R.len; have := R.many; omega) es 1 _ _ rest R.goes (by rw [Nat.add_comm]; exact h2) (Nat.le_refl _) h4
end
end Go.Proofs.YtjajenkagcdhlaaGreat
/- A ledger that runs: what stands on its drum; a round's end, an opening, a posting. -/
namespace Go.Proofs.YtjajenkagcdhlaaGreat
open Go.RowKit
set_option maxRecDepth 100000

theorem over_append (T : List (List Nat)) (A B : List (Nat × List Nat)) : over T (A ++ B) = over (over T A) B := by simp [over]
theorem took_trk {ws : Wri} (h : ∀ (k : Nat) (b : List Nat), ws[k]? = some (some b) → Trk b) : ∀ {e : List Ent}, (∀ x ∈ e, Trk x.2) → ∀ (k : Nat) (b : List Nat), (took ws e)[k]? = some (some b) → Trk b := fun {e} => by
  induction e generalizing ws with
  | nil => intro _; exact h
  | cons x r ih =>
    intro he k b hk
    refine ih (ws := ws.set x.1 (some x.2)) (fun k b hk => ?_) (fun y hy => he y (by simp [hy])) k b hk
    by_cases e1 : x.1 = k
    · subst e1
      have hl : x.1 < ws.length := by have := lt_of_get hk; rwa [List.length_set] at this
      rw [List.getElem?_set_self hl] at hk
      injection hk with hk
      injection hk with hk
      subst hk
      exact he x (by simp)
    · rw [List.getElem?_set_ne e1] at hk
      exact h k b hk
theorem tookAll_trk : ∀ {es : List (List Ent)} {ws : Wri}, (∀ (k : Nat) (b : List Nat), ws[k]? = some (some b) → Trk b) → (∀ e ∈ es, ∀ x ∈ e, Trk x.2) → ∀ (k : Nat) (b : List Nat), (tookAll ws es)[k]? = some (some b) → Trk b := fun {es} => by
  induction es with
  | nil => intro ws h _; exact h
  | cons e es ih =>
    intro ws h he
    exact ih (ws := took ws e) (took_trk h (he e (by simp))) (fun f hf => he f (by simp [hf]))
theorem none_trk (n : Nat) : ∀ (k : Nat) (b : List Nat), (List.replicate n (none : Option (List Nat)))[k]? = some (some b) → Trk b := fun k b h => by
  rw [List.getElem?_replicate] at h
  split at h
  · injection h with h; cases h
  · cases h
theorem cover_trk (r l : Nat) : Trk (cover r l) := ⟨track_byte (fun x hx => by
  unfold coverText at hx
  rcases List.mem_append.1 hx with h | h
  · exact high_byte _ _ x h
  · rcases List.mem_append.1 h with h | h
    · exact high_byte _ _ x h
    · rcases List.mem_append.1 h with h | h
      · exact zeros_byte _ x h
      · exact high_byte _ _ x h), cover_length r l⟩

/-- What is written in a round. -/
abbrev wrote (H : List (List Nat)) (es : List (List Ent)) : Wri := tookAll (List.replicate H.length none) es
theorem wrote_length (H : List (List Nat)) (es : List (List Ent)) : (wrote H es).length = H.length := by rw [tookAll_length, List.length_replicate]

structure Live (V : List (List Nat)) (l r : Nat) (H : List (List Nat)) (es : List (List Ent)) : Prop where
  is : RecE V l r H es
  other : ∃ o s, V[(r + 1) % 2]? = some o ∧ Ends o s ∧ s < r
  fresh : ∃ rest, leavesT V l = posts r 1 es ++ rest ∧ ∀ b ∈ rest, at0 b 83 < r

/-- A round's end: what is written is laid home, then the next cover. -/
def renewed (V : List (List Nat)) (l r : Nat) (ws : Wri) : List (List Nat) := (over V (homeA l 0 ws)).set ((r + 1) % 2) (cover (r + 1) l)
theorem renewed_get {V : List (List Nat)} {l r : Nat} {ws : Wri} (h : 2 + l + ws.length ≤ V.length) (i : Nat) : (renewed V l r ws)[i]? = if i = (r + 1) % 2 then some (cover (r + 1) l) else if 2 + l ≤ i then (match ws.getD (i - (2 + l)) none with | some b => some b | none => V[i]?) else V[i]? := by
  unfold renewed
  by_cases hi : i = (r + 1) % 2
  · subst hi
    rw [if_pos rfl, List.getElem?_set_self (by rw [over_length]; omega)]
  · rw [if_neg hi, List.getElem?_set_ne (fun q => hi q.symm), over_home h]
    rfl
theorem Live.renew {V : List (List Nat)} {l r : Nat} {H : List (List Nat)} {es : List (List Ent)} (R : RecE V l r H es) (hr : r + 1 < 255) : Live (renewed V l r (wrote H es)) l (r + 1) H [] := by
  have hwl := wrote_length H es
  have hg := renewed_get (V := V) (l := l) (r := r) (ws := wrote H es) (by rw [hwl, R.len]; exact Nat.le_refl _)
  have hlen : (renewed V l r (wrote H es)).length = V.length := by unfold renewed; rw [List.length_set, over_length]
  have hleaf : ∀ i, i < l → (renewed V l r (wrote H es))[2 + i]? = V[2 + i]? := fun i hi => by rw [hg, if_neg (by omega), if_neg (by omega)]
  have hlt : leavesT (renewed V l r (wrote H es)) l = leavesT V l := by
    apply List.ext_getElem?
    intro i
    rw [leavesT_get, leavesT_get]
    by_cases h : i < l
    · rw [if_pos h, if_pos h, hleaf i h]
    · rw [if_neg h, if_neg h]
  have hlow : ∀ b ∈ leavesT V l, at0 b 83 < r + 1 := fun b hb => by
    obtain ⟨i, hi⟩ := List.getElem?_of_mem hb
    rw [leavesT_get] at hi
    split at hi
    · rename_i h
      obtain ⟨c, hc, hc'⟩ := R.low i h
      rw [hc] at hi
      injection hi with hi
      subst hi
      omega
    · cases hi
  have hother : (renewed V l r (wrote H es))[(r + 1 + 1) % 2]? = some (cover r l) := by
    have := R.r1
    rw [hg, if_neg (by omega), if_neg (by have := R.lv; omega), show (r + 1 + 1) % 2 = r % 2 by omega]
    exact R.cov
  have hends : Ends (cover r l) r := cover_ends (by omega)
  refine ⟨⟨fun b hb => ?_, by rw [hlen]; exact R.len, by rw [hlen]; exact R.many, R.lv, R.hm, by omega, hr, ?_, ⟨_, hother, .inl ⟨r, hends, by omega⟩⟩, fun i hi => ?_, (fun e he => by cases he), (fun e he => by cases he), ⟨leavesT V l, by rw [hlt]; rfl, ?_⟩, fun k hk => ?_⟩, ⟨_, r, hother, hends, by omega⟩, ⟨leavesT V l, by rw [hlt]; rfl, hlow⟩⟩
  · obtain ⟨i, hi⟩ := List.getElem?_of_mem hb
    rw [hg] at hi
    split at hi
    · injection hi with hi
      subst hi
      exact cover_trk _ _
    · split at hi
      · split at hi
        · rename_i b' hb'
          injection hi with hi
          subst hi
          refine tookAll_trk (none_trk H.length) R.etrk (i - (2 + l)) b' ?_
          rw [List.getD_eq_getElem?_getD] at hb'
          cases hq : (wrote H es)[i - (2 + l)]? with
          | none => rw [hq] at hb'; cases hb'
          | some y => rw [hq] at hb'; exact congrArg some hb'
        · exact R.trk b (mem_of_get hi)
      · exact R.trk b (mem_of_get hi)
  · rw [hg, if_pos rfl]
  · obtain ⟨b, h1, h2⟩ := R.low i hi
    exact ⟨b, by rw [hleaf i hi]; exact h1, by omega⟩
  · refine readP_low (by omega) (fun b hb => ?_)
    have := hlow b (mem_of_get hb)
    omega
  · have h0 : (tookAll (List.replicate H.length none) ([] : List (List Ent))).getD k none = none := by
      show (List.replicate H.length none).getD k none = none
      rw [List.getD_eq_getElem?_getD, List.getElem?_replicate]
      split <;> rfl
    unfold homeOf
    rw [h0]
    simp only
    have hv := hg (2 + l + k)
    rw [if_neg (by omega), if_pos (by omega), show 2 + l + k - (2 + l) = k by omega] at hv
    have hH := R.home k hk
    unfold homeOf at hH
    cases hw : (wrote H es).getD k none with
    | some b =>
      rw [hw] at hv hH
      simp only at hv hH
      rw [getD_of hv]
      exact hH
    | none =>
      rw [hw] at hv hH
      simp only at hv hH
      rw [hH]
      congr 1
      rw [List.getD_eq_getElem?_getD, List.getD_eq_getElem?_getD, hv]

theorem ideals_next (T : List (List Nat)) (A : List (Nat × List Nat)) (l r : Nat) (ws : Wri) : ideals (T, A) (homeT l 0 ws ++ beginT (r + 1) l) = (renewed (over T A) l r ws, []) := by
  rw [ideals_append, ideals_home]
  show (over (over T (A ++ homeA l 0 ws)) [((r + 1) % 2, cover (r + 1) l)], []) = _
  rw [over_append]
  rfl

/-- A ledger that runs, no break being set. -/
structure LiveL (L : LS) (l r : Nat) (H : List (List Nat)) (es : List (List Ent)) : Prop where
  quiet : Quiet L.D
  lost : L.lost = false
  leaves : L.leaves = l
  round : L.round = r
  count : L.posts = es.length
  laid : L.laid = (posts r 1 es).length
  ws : L.ws = wrote H es
  live : Live L.D.seen l r H es

theorem LiveL.home {L : LS} {l r : Nat} {H : List (List Nat)} {es : List (List Ent)} (h : LiveL L l r H es) {k : Nat} (hk : k < H.length) : H[k]? = some (L.homeAt k) := by
  rw [h.live.is.home k hk]
  unfold LS.homeAt homeOf
  rw [h.ws, h.leaves]
  rfl
theorem LiveL.hlen {L : LS} {l r : Nat} {H : List (List Nat)} {es : List (List Ent)} (h : LiveL L l r H es) : L.ws.length = H.length := by rw [h.ws, wrote_length]
theorem LiveL.ok {L : LS} {l r : Nat} {H : List (List Nat)} {es : List (List Ent)} (h : LiveL L l r H es) (hp : es.length ≤ 1000000) : L.Ok := by
  have R := h.live.is
  have hl := R.len
  rw [DS.seen_length] at hl
  have hr := R.r2
  refine ⟨by rw [h.leaves]; exact R.lv, by rw [h.hlen]; exact R.hm, by rw [h.leaves, h.hlen]; exact hl, ?_, by rw [h.round]; omega, by rw [h.count]; exact hp⟩
  obtain ⟨rest, h1, _⟩ := R.pages
  have h2 : (leavesT L.D.seen l).length = l := by
    unfold leavesT
    rw [List.length_take, List.length_drop, R.len]
    omega
  rw [h1, List.length_append] at h2
  rw [h.laid, h.leaves]
  omega

/-- The next round of a ledger over tracks of which one can be opened. -/
theorem next_live {L : LS} {l r : Nat} {H : List (List Nat)} {es : List (List Ent)} (q : Quiet L.D) (hlost : L.lost = false) (hl : L.leaves = l) (hrd : L.round = r) (hws : L.ws = wrote H es) (R : RecE L.D.seen l r H es) (hr : r + 1 < 255) : LiveL L.next l (r + 1) H [] ∧ L.next.D.A = [] ∧ L.next.D.down = false := by
  have hta := q.ta L.nextT
  have hq := q.run L.nextT
  have hnt : L.nextT = homeT l 0 (wrote H es) ++ beginT (r + 1) l := by unfold LS.nextT; rw [hl, hrd, hws]
  rw [hnt] at hta
  rw [show L.D.ta = (L.D.T, L.D.A) from rfl, ideals_next, ← hnt] at hta
  have hT : (L.D.run L.nextT).T = renewed L.D.seen l r (wrote H es) := congrArg Prod.fst hta
  have hA : (L.D.run L.nextT).A = [] := congrArg Prod.snd hta
  have hS : (L.D.run L.nextT).seen = renewed L.D.seen l r (wrote H es) := by unfold DS.seen; rw [hA, hT]; rfl
  rw [next_up hq.down]
  refine ⟨⟨hq, hlost, hl, by show L.round + 1 = _; rw [hrd], rfl, rfl, ?_, ?_⟩, hA, hq.down⟩
  · show List.replicate L.ws.length none = _; rw [hws, wrote_length]; rfl
  · show Live (L.D.run L.nextT).seen _ _ _ _; rw [hS]; exact Live.renew R hr
/-- What is opened, no break being set. -/
theorem open_live {D : DS} {l r : Nat} {H : List (List Nat)} {es : List (List Ent)} (q : Quiet D) (R : RecE D.seen l r H es) (hr : r + 1 < 255) : coverK D = some (r % 2) ∧ openE D = 0 ∧ openD D = (openL D (r % 2)).D ∧ LiveL (openL D (r % 2)) l (r + 1) H [] ∧ (openL D (r % 2)).D.A = [] := by
  have hk := R.coverK
  have hrd := R.reads
  have hn := next_live (L := (LS.counted D (r % 2)).reads) (by rw [hrd]; exact q) (by rw [hrd]) (by rw [hrd]) (by rw [hrd]) (by rw [hrd]) (by rw [hrd]; exact R) hr
  refine ⟨hk, ?_, ?_, hn.1, hn.2.1⟩
  · unfold openE
    rw [q.down, hk]
    exact bad_up hn.2.2
  · unfold openD
    rw [q.down, hk]
    rfl
end Go.Proofs.YtjajenkagcdhlaaGreat
/- A ledger that runs, no break being set: what Settle, Balance, Write leave. -/
namespace Go.Proofs.YtjajenkagcdhlaaGreat
open Go.RowKit
set_option maxRecDepth 100000

/-- Home tracks as a posting has them. -/
def tookH (H : List (List Nat)) (e : List Ent) : List (List Nat) := e.foldl (fun H x => H.set x.1 x.2) H
theorem tookH_length (H : List (List Nat)) : ∀ e : List Ent, (tookH H e).length = H.length := fun e => by
  induction e generalizing H with
  | nil => rfl
  | cons x r ih => show (tookH (H.set x.1 x.2) r).length = _; rw [ih, List.length_set]
theorem homeOf_set {V : List (List Nat)} {l : Nat} {ws : Wri} {a k : Nat} {b : List Nat} (ha : a < ws.length) : homeOf V l (ws.set a (some b)) k = if a = k then b else homeOf V l ws k := by
  unfold homeOf
  by_cases e : a = k
  · subst e
    rw [if_pos rfl, List.getD_eq_getElem?_getD, List.getElem?_set_self ha]
    rfl
  · simp only [List.getD_eq_getElem?_getD]
    rw [if_neg e, List.getElem?_set_ne e]
theorem homeOf_took {V : List (List Nat)} {l n : Nat} : ∀ {e : List Ent} {ws : Wri} {H : List (List Nat)}, ws.length = n → H.length = n → (∀ x ∈ e, x.1 < n) → (∀ k, k < n → H[k]? = some (homeOf V l ws k)) → ∀ k, k < n → (tookH H e)[k]? = some (homeOf V l (took ws e) k) := fun {e} => by
  induction e with
  | nil => intro ws H _ _ _ h; exact h
  | cons x r ih =>
    intro ws H hw hH hx h
    have hx1 := hx x (by simp)
    refine ih (ws := ws.set x.1 (some x.2)) (H := H.set x.1 x.2) (by rw [List.length_set]; exact hw) (by rw [List.length_set]; exact hH) (fun y hy => hx y (by simp [hy])) (fun k hk => ?_)
    rw [homeOf_set (by omega)]
    by_cases e1 : x.1 = k
    · subst e1
      rw [if_pos rfl, List.getElem?_set_self (by omega)]
    · rw [if_neg e1, List.getElem?_set_ne e1]
      exact h k hk
/-- Only the leaves of other tracks matter not to what is home. -/
theorem homeOf_same {V V' : List (List Nat)} {l k : Nat} {ws : Wri} (h : V'[2 + l + k]? = V[2 + l + k]?) : homeOf V' l ws k = homeOf V l ws k := by
  unfold homeOf
  rw [List.getD_eq_getElem?_getD (l := V'), h, ← List.getD_eq_getElem?_getD]

theorem posting_get {r n k : Nat} {e : List Ent} {b : List Nat} (h : (posting r n e)[k]? = some b) : k < leavesOf e.length ∧ b = leaf r n e k := by
  have hk : k < leavesOf e.length := by have := lt_of_get h; rwa [posting_length] at this
  unfold posting at h
  rw [List.getElem?_map, List.getElem?_range hk] at h
  injection h with h
  exact ⟨hk, h.symm⟩
theorem leaf_trk {r n k : Nat} {e : List Ent} (h : ∀ x ∈ e, Trk x.2) (h0 : 0 < e.length) (hk : k < leavesOf e.length) : Trk (leaf r n e k) := by
  refine ⟨?_, leaf_length (fun x hx => (h x hx).len) h0 hk⟩
  unfold leaf
  refine track_byte (fun x hx => ?_)
  unfold leafText at hx
  have hp : ∀ y ∈ ptext e, y < 256 := fun y hy => by
    unfold ptext etext at hy
    rcases List.mem_append.1 hy with q | q
    · rcases List.mem_append.1 q with q | q
      · exact high_byte _ _ y q
      · obtain ⟨z, hz, hy'⟩ := List.mem_flatten.1 q
        obtain ⟨w, hw, rfl⟩ := List.mem_map.1 hz
        unfold entText at hy'
        rcases List.mem_append.1 hy' with q | q
        · exact high_byte _ _ y q
        · exact (h w hw).byte y q
    · exact zeros_byte _ y q
  simp only [List.mem_append] at hx
  rcases hx with q | q | q | q | q | q | q
  · exact high_byte _ _ x q
  · exact high_byte _ _ x q
  · exact high_byte _ _ x q
  · exact high_byte _ _ x q
  · exact hp x (List.mem_of_mem_drop (List.mem_of_mem_take q))
  · exact high_byte _ _ x q
  · exact high_byte _ _ x q

/-- The leaves of a posting laid behind those of this round. -/
theorem Live.lay {V : List (List Nat)} {l r : Nat} {H : List (List Nat)} {es : List (List Ent)} (h : Live V l r H es) {e : List Ent} (hg : Goes e H.length) (ht : ∀ x ∈ e, Trk x.2) (hroom : (posts r 1 es).length + leavesOf e.length ≤ l) :
    Live (over V (leafA (2 + (posts r 1 es).length) (posting r (es.length + 1) e))) l r (tookH H e) (es ++ [e]) := by
  have R := h.is
  have hpl := posting_length r (es.length + 1) e
  have h2 := leavesOf_two hg.2.2
  obtain ⟨P, hP⟩ : ∃ P, posting r (es.length + 1) e = P := ⟨_, rfl⟩
  obtain ⟨p, hp⟩ : ∃ p, (posts r 1 es).length = p := ⟨_, rfl⟩
  have hPg : ∀ k b, P[k]? = some b → Trk b ∧ Ends b r := fun k b hb => by
    rw [← hP] at hb
    obtain ⟨hk, rfl⟩ := posting_get hb
    exact ⟨leaf_trk ht hg.2.2 hk, leaf_ends (by have := R.r2; omega) (fun x hx => (hg.1 x hx).2) hg.2.2 hk⟩
  rw [hP] at hpl ⊢
  rw [hp] at hroom ⊢
  have hget := over_leaf (T := V) (k := 2 + p) (bs := P) (by rw [hpl, R.len]; omega)
  have hlen : (over V (leafA (2 + p) P)).length = V.length := over_length _ _
  obtain ⟨rest, hr1, hr2⟩ := h.fresh
  have hlt : leavesT (over V (leafA (2 + p) P)) l = posts r 1 (es ++ [e]) ++ rest.drop (leavesOf e.length) := by
    have hpe : posts r 1 (es ++ [e]) = posts r 1 es ++ P := by
      rw [posts_append]
      show posts r 1 es ++ (posting r (1 + es.length) e ++ []) = _
      rw [List.append_nil, Nat.add_comm, hP]
    rw [hpe, List.append_assoc]
    apply List.ext_getElem?
    intro i
    have hVi : (leavesT V l)[i]? = if i < l then V[2 + i]? else none := leavesT_get V l i
    rw [leavesT_get, hget]
    rw [hr1] at hVi
    by_cases hi : i < l
    · rw [if_pos hi] at hVi ⊢
      by_cases h1 : i < p
      · rw [if_neg (by omega), ← hVi, List.getElem?_append_left (by omega), List.getElem?_append_left (by omega)]
      · by_cases h3 : i < p + leavesOf e.length
        · rw [if_pos (by omega), List.getElem?_append_right (by omega), hp, List.getElem?_append_left (by omega), show 2 + i - (2 + p) = i - p by omega]
        · rw [if_neg (by omega), ← hVi, List.getElem?_append_right (by omega), List.getElem?_append_right (by omega), hp, List.getElem?_append_right (by omega), List.getElem?_drop, hpl, show leavesOf e.length + (i - p - leavesOf e.length) = i - p by omega]
    · rw [if_neg hi] at hVi ⊢
      have hlr : (posts r 1 es ++ rest).length = l := by
        rw [← hr1]
        unfold leavesT
        rw [List.length_take, List.length_drop, R.len]
        omega
      rw [List.length_append, hp] at hlr
      rw [List.getElem?_eq_none (by rw [List.length_append, List.length_append, List.length_drop]; omega)]
  have hfresh : ∀ b ∈ rest.drop (leavesOf e.length), at0 b 83 < r := fun b hb => hr2 b (List.mem_of_mem_drop hb)
  have hnl : (es ++ [e]).length = es.length + 1 := by simp
  have hhl := tookH_length H e
  refine ⟨⟨fun b hb => ?_, by rw [hlen, hhl]; exact R.len, by rw [hlen]; exact R.many, R.lv, by rw [hhl]; exact R.hm, R.r1, R.r2, ?_, ?_, fun i hi => ?_, ?_, ?_, ⟨_, hlt, ?_⟩, fun k hk => ?_⟩, ?_, ⟨_, hlt, hfresh⟩⟩
  · refine over_trk R.trk _ (fun x hx => ?_) b hb
    obtain ⟨j, h1, _⟩ := leafA_mem hx
    exact (hPg j x.2 h1).1
  · rw [hget, if_neg (by omega)]; exact R.cov
  · obtain ⟨o, h1, h3⟩ := R.oth
    exact ⟨o, by rw [hget, if_neg (by omega)]; exact h1, h3⟩
  · rw [hget]
    by_cases hq : 2 + p ≤ 2 + i ∧ 2 + i < 2 + p + P.length
    · rw [if_pos hq]
      obtain ⟨b, hb⟩ := get_of_lt (l := P) (n := 2 + i - (2 + p)) (by omega)
      exact ⟨b, hb, by rw [(hPg _ b hb).2.2.2.2]; exact Nat.le_refl _⟩
    · rw [if_neg hq]; exact R.low i hi
  · intro f hf
    rw [hhl]
    rcases List.mem_append.1 hf with q | q
    · exact R.goes f q
    · obtain rfl := List.mem_singleton.1 q; exact hg
  · intro f hf
    rcases List.mem_append.1 hf with q | q
    · exact R.etrk f q
    · obtain rfl := List.mem_singleton.1 q; exact ht
  · refine readP_low (by have := R.r2; omega) (fun b hb => ?_)
    have := hfresh b (mem_of_get hb)
    omega
  · rw [hhl] at hk ⊢
    rw [tookAll_snoc]
    have e1 := homeOf_took (V := V) (l := l) (n := H.length) (e := e) (ws := wrote H es) (H := H) (wrote_length H es) rfl (fun x hx => (hg.1 x hx).1) (fun k hk => R.home k hk) k hk
    rw [e1]
    congr 1
    refine (homeOf_same ?_).symm
    rw [hget, if_neg (by omega)]
  · obtain ⟨o, s, h1, h3, h4⟩ := h.other
    exact ⟨o, s, by rw [hget, if_neg (by omega)]; exact h1, h3, h4⟩

theorem bad_quiet {D : DS} (h : Quiet D) : D.bad = 0 := bad_up h.down
theorem heed_quiet {L : LS} (h : Quiet L.D) : L.heed = L := by unfold LS.heed; rw [h.down]; rfl
theorem layP_live {L : LS} {l r : Nat} {H : List (List Nat)} {es : List (List Ent)} (h : LiveL L l r H es) {e : List Ent} (hg : Goes e H.length) (ht : ∀ x ∈ e, Trk x.2) (hroom : L.laid + leavesOf e.length ≤ l) : LiveL (L.layP e) l r (tookH H e) (es ++ [e]) := by
  have hq := h.quiet.run (leafT (2 + L.laid) (posting L.round (L.posts + 1) e))
  have hta := h.quiet.ta (leafT (2 + L.laid) (posting L.round (L.posts + 1) e))
  rw [show L.D.ta = (L.D.T, L.D.A) from rfl, ideals_leaf] at hta
  have hS : (L.D.run (leafT (2 + L.laid) (posting L.round (L.posts + 1) e))).seen = over L.D.seen (leafA (2 + (posts r 1 es).length) (posting r (es.length + 1) e)) := by
    unfold DS.seen
    rw [show (L.D.run (leafT (2 + L.laid) (posting L.round (L.posts + 1) e))).T = L.D.T from congrArg Prod.fst hta, show (L.D.run (leafT (2 + L.laid) (posting L.round (L.posts + 1) e))).A = L.D.A ++ leafA (2 + L.laid) (posting L.round (L.posts + 1) e) from congrArg Prod.snd hta, over_append, h.laid, h.round, h.count]
  have hlv := h.live.lay hg ht (by rw [← h.laid]; exact hroom)
  unfold LS.layP
  simp only [hq.down, Bool.false_eq_true, if_false]
  refine ⟨hq, h.lost, h.leaves, h.round, ?_, ?_, ?_, ?_⟩
  · show L.posts + 1 = _; rw [h.count]; simp
  · show L.laid + leavesOf e.length = _; rw [h.laid, posts_append, List.length_append]; congr 1; show _ = (posting r (1 + es.length) e ++ []).length; rw [List.append_nil, posting_length]
  · show took L.ws e = _; rw [h.ws]; show _ = tookAll (List.replicate (tookH H e).length none) (es ++ [e]); rw [tookH_length, tookAll_snoc]
  · show Live (L.D.run _).seen _ _ _ _; rw [hS]; exact hlv

theorem step_settle_seen {D : DS} (h : Quiet D) : (D.step .settle).seen = D.seen ∧ (D.step .settle).A = [] ∧ (D.step .settle).T = D.seen := by
  have := step_ta (D := D) (t := .settle) (h.step _).down
  have h1 : (D.step .settle).T = D.seen := congrArg Prod.fst this
  have h2 : (D.step .settle).A = [] := congrArg Prod.snd this
  exact ⟨by unfold DS.seen; rw [h1, h2]; rfl, h2, h1⟩
theorem LiveL.settled {L : LS} {l r : Nat} {H : List (List Nat)} {es : List (List Ent)} (h : LiveL L l r H es) : LiveL { L with D := L.D.step .settle } l r H es :=
  ⟨h.quiet.step .settle, h.lost, h.leaves, h.round, h.count, h.laid, h.ws, by show Live (L.D.step .settle).seen _ _ _ _; rw [(step_settle_seen h.quiet).1]; exact h.live⟩
theorem settle_live {L : LS} {l r : Nat} {H : List (List Nat)} {es : List (List Ent)} (h : LiveL L l r H es) : L.settleE = 0 ∧ LiveL L.settle l r H es ∧ L.settle = { L with D := L.D.step .settle } := by
  have hs := h.settled
  have e : L.settle = { L with D := L.D.step .settle } := by unfold LS.settle; rw [h.lost]; exact heed_quiet hs.quiet
  refine ⟨?_, by rw [e]; exact hs, e⟩
  unfold LS.settleE
  rw [h.lost]
  exact bad_quiet hs.quiet
theorem balanced_live {L : LS} {l r : Nat} {H : List (List Nat)} {es : List (List Ent)} (h : LiveL L l r H es) (hr : r + 1 < 255) : LiveL L.balanced l (r + 1) H [] ∧ L.balanced.D.A = [] := by
  have hs := h.settled
  have hn := next_live hs.quiet hs.lost hs.leaves hs.round hs.ws hs.live.is hr
  have e : L.balanced = ({ L with D := L.D.step .settle } : LS).next := by unfold LS.balanced; rw [show (L.D.step .settle).down = false from hs.quiet.down]; rfl
  rw [e]
  exact ⟨hn.1, hn.2.1⟩
theorem balance_live {L : LS} {l r : Nat} {H : List (List Nat)} {es : List (List Ent)} (h : LiveL L l r H es) (hr : r + 1 < 255) : L.balanceE = 0 ∧ LiveL L.balance l (r + 1) H [] ∧ L.balance = L.balanced := by
  have hb := (balanced_live h hr).1
  have e : L.balance = L.balanced := by unfold LS.balance; rw [h.lost]; exact heed_quiet hb.quiet
  refine ⟨?_, by rw [e]; exact hb, e⟩
  unfold LS.balanceE
  rw [h.lost]
  exact bad_quiet hb.quiet
/-- Write. -/
theorem write_live {L : LS} {l r : Nat} {H : List (List Nat)} {es : List (List Ent)} (h : LiveL L l r H es) (hr : r + 1 < 255) {e : List Ent} (ht : ∀ x ∈ e, Trk x.2) :
    (L.writeE e = 1 ∧ L.write e = L ∧ ¬ Goes e H.length) ∨ (L.writeE e = 5 ∧ L.write e = L ∧ Goes e H.length ∧ l < leavesOf e.length) ∨ (L.writeE e = 0 ∧ Goes e H.length ∧ ∃ r' es', (r' = r ∨ r' = r + 1) ∧ es'.length ≤ es.length + 1 ∧ LiveL (L.write e) l r' (tookH H e) es') := by
  by_cases hg : Goes e H.length
  · have hg' : Goes e L.ws.length := by rw [h.hlen]; exact hg
    by_cases hbig : l < leavesOf e.length
    · refine .inr (.inl ⟨?_, ?_, hg, hbig⟩)
      · unfold LS.writeE; rw [if_pos hg', h.lost, h.leaves, if_pos hbig]; rfl
      · unfold LS.write; rw [if_pos hg', h.lost, h.leaves, if_pos hbig]; rfl
    · right; right
      have e1 : L.writeE e = (L.post e).D.bad := by unfold LS.writeE; rw [if_pos hg', h.lost, h.leaves, if_neg hbig]; rfl
      have e2 : L.write e = (L.post e).heed := by unfold LS.write; rw [if_pos hg', h.lost, h.leaves, if_neg hbig]; rfl
      rw [e1, e2]
      by_cases hroom : L.leaves - L.laid < leavesOf e.length
      · have hb := (balanced_live h hr).1
        have hl := layP_live hb hg ht (by rw [hb.laid]; show 0 + _ ≤ _; omega)
        have ep : L.post e = L.balanced.layP e := by unfold LS.post; rw [if_pos hroom, hb.quiet.down]; rfl
        rw [ep, heed_quiet hl.quiet]
        exact ⟨bad_quiet hl.quiet, hg, r + 1, _, .inr rfl, by simp, hl⟩
      · have hlaid := (h.ok (by
          have h1 : es.length ≤ (posts r 1 es).length := by
            have : ∀ (n : Nat) (fs : List (List Ent)), (∀ f ∈ fs, Goes f H.length) → fs.length ≤ (posts r n fs).length := fun n fs => by
              induction fs generalizing n with
              | nil => intro _; exact Nat.zero_le _
              | cons f fs ih =>
                intro hf
                have h2 := ih (n + 1) (fun x hx => hf x (by simp [hx]))
                have h3 := leavesOf_two (hf f (by simp)).2.2
                show fs.length + 1 ≤ (posting r n f ++ posts r (n + 1) fs).length
                rw [List.length_append, posting_length]
                omega
            exact this 1 es h.live.is.goes
          obtain ⟨rest, hq, _⟩ := h.live.is.pages
          have h2 : (leavesT L.D.seen l).length ≤ l := by unfold leavesT; rw [List.length_take]; omega
          rw [hq, List.length_append] at h2
          have := h.live.is.len
          have := h.live.is.many
          omega)).laid
        rw [h.leaves] at hroom hlaid
        have hl := layP_live h hg ht (by omega)
        have ep : L.post e = L.layP e := by unfold LS.post; rw [h.leaves, if_neg hroom]
        rw [ep, heed_quiet hl.quiet]
        exact ⟨bad_quiet hl.quiet, hg, r, _, .inl rfl, by simp, hl⟩
  · refine .inl ⟨?_, ?_, hg⟩
    · exact by unfold LS.writeE; rw [if_neg (by rw [h.hlen]; exact hg)]
    · exact by unfold LS.write; rw [if_neg (by rw [h.hlen]; exact hg)]
end Go.Proofs.YtjajenkagcdhlaaGreat
