/- A ledger that is founded. -/
import Derived.Test.YtjajenkagcdhlaaGreatLiveW
import Derived.Test.YtjajenkagcdhlaaGreatKnown
namespace Go.Proofs.YtjajenkagcdhlaaGreat
open Go.RowKit
set_option maxRecDepth 100000

theorem set_replicate {n k : Nat} (b : List Nat) : (List.replicate n b).set k b = List.replicate n b := by
  apply List.ext_getElem?
  intro i
  by_cases e : k = i
  · subst e
    rcases Nat.lt_or_ge k n with q | q
    · rw [List.getElem?_set_self (by simpa using q), List.getElem?_replicate, if_pos q]
    · rw [List.getElem?_eq_none (by simpa using q), List.getElem?_eq_none (by simpa using q)]
  · rw [List.getElem?_set_ne e]
theorem over_blank (n : Nat) (b : List Nat) : ∀ A : List (Nat × List Nat), (∀ x ∈ A, x.2 = b) → over (List.replicate n b) A = List.replicate n b := fun A => by
  induction A with
  | nil => intro _; rfl
  | cons x r ih =>
    intro h
    show over ((List.replicate n b).set x.1 x.2) r = _
    rw [h x (by simp), set_replicate]
    exact ih (fun y hy => h y (by simp [hy]))
theorem ideals_blank (s : TA) : ∀ m, ∃ A, ideals s (blankT m) = (s.1, s.2 ++ A) ∧ ∀ x ∈ A, x.2 = zeros 96
  | 0 => ⟨[], by simp [blankT, ideals], (fun x hx => by cases hx)⟩
  | m + 1 => by
    obtain ⟨A, h1, h2⟩ := ideals_blank s m
    refine ⟨A ++ [(m, zeros 96)], ?_, fun x hx => ?_⟩
    · rw [blankT_next, ideals_append, h1]
      show (s.1, s.2 ++ A ++ [(m, zeros 96)]) = _
      rw [List.append_assoc]
    · rcases List.mem_append.1 hx with q | q
      · exact h2 x q
      · obtain rfl := List.mem_singleton.1 q; rfl
def zeroH (n : Nat) : List (List Nat) := List.replicate n (zeros 96)
theorem new_quiet (n : Nat) : Quiet (DS.new n) := ⟨rfl, rfl⟩
theorem newD_ta (n l : Nat) : (newD n l).ta = ((zeroH n).set 1 (cover 1 l), []) := by
  obtain ⟨A, h1, h2⟩ := ideals_blank ((DS.new n).T, (DS.new n).A) (2 + l)
  unfold newD
  rw [(new_quiet n).ta]
  unfold foundT
  rw [show (List.range (2 + l)).map (fun k => Trn.lay k (zeros 96)) = blankT (2 + l) from rfl, ideals_append, show (DS.new n).ta = ((DS.new n).T, (DS.new n).A) from rfl, h1]
  show (over (over (DS.new n).T ((DS.new n).A ++ A)) [(1 % 2, cover 1 l)], []) = _
  rw [show (DS.new n).A = [] from rfl, List.nil_append, show (DS.new n).T = List.replicate n (zeros 96) from rfl, over_blank n (zeros 96) A h2]
  rfl
theorem newD_seen (n l : Nat) : (newD n l).seen = (zeroH n).set 1 (cover 1 l) := by
  unfold DS.seen
  rw [show (newD n l).T = (zeroH n).set 1 (cover 1 l) from congrArg Prod.fst (newD_ta n l), show (newD n l).A = [] from congrArg Prod.snd (newD_ta n l)]
  rfl
theorem newD_quiet (n l : Nat) : Quiet (newD n l) := (new_quiet n).run _
theorem ends_zeros : Ends (zeros 96) 0 := ⟨rfl, rfl, rfl, rfl⟩
theorem newD_rec {n l h : Nat} (hn : n = 2 + l + h) (hl : 5 ≤ l) (hh : 2 ≤ h) (hm : n ≤ 4096) : RecE (newD n l).seen l 1 (zeroH h) [] := by
  rw [newD_seen]
  have hg : ∀ i, i ≠ 1 → i < n → ((zeroH n).set 1 (cover 1 l))[i]? = some (zeros 96) := fun i hi hin => by
    rw [List.getElem?_set_ne (fun q => hi q.symm)]
    unfold zeroH
    rw [List.getElem?_replicate, if_pos hin]
  have hH : (zeroH h).length = h := by simp [zeroH]
  have hlt : ∀ b ∈ leavesT ((zeroH n).set 1 (cover 1 l)) l, b = zeros 96 := fun b hb => by
    obtain ⟨i, hi⟩ := List.getElem?_of_mem hb
    rw [leavesT_get] at hi
    split at hi
    · rw [hg (2 + i) (by omega) (by omega)] at hi
      injection hi with hi
      exact hi.symm
    · cases hi
  refine ⟨fun b hb => ?_, by rw [List.length_set]; simp [zeroH]; omega, by rw [List.length_set]; simp [zeroH]; omega, hl, by rw [hH]; exact hh, Nat.le_refl _, by decide, ?_, ⟨zeros 96, hg 0 (by decide) (by omega), .inl ⟨0, ends_zeros, by decide⟩⟩, fun i hi => ⟨zeros 96, hg (2 + i) (by omega) (by omega), by decide⟩, (fun e he => by cases he), (fun e he => by cases he), ⟨_, rfl, ?_⟩, fun k hk => ?_⟩
  · rcases List.mem_or_eq_of_mem_set hb with q | rfl
    · rw [(List.mem_replicate.1 q).2]; exact trk_zeros
    · exact cover_trk _ _
  · show ((zeroH n).set 1 (cover 1 l))[1]? = _
    rw [List.getElem?_set_self (by simp [zeroH]; omega)]
  · refine readP_low (by decide) (fun b hb => ?_)
    rw [hlt b (mem_of_get hb)]
    decide
  · rw [hH] at hk
    have h0 : (tookAll (List.replicate (zeroH h).length none) ([] : List (List Ent))).getD k none = none := by
      show (List.replicate (zeroH h).length none).getD k none = none
      rw [List.getD_eq_getElem?_getD, List.getElem?_replicate]
      split <;> rfl
    unfold homeOf
    rw [h0]
    simp only
    rw [getD_of (hg (2 + l + k) (by omega) (by omega))]
    unfold zeroH
    rw [List.getElem?_replicate, if_pos hk]
theorem newL_live {n l h : Nat} (hn : n = 2 + l + h) (hl : 5 ≤ l) (hh : 3 ≤ h) (hm : n ≤ 4096) : Founds n l ∧ LiveL (newL n l) l 2 (zeroH h) [] ∧ (newL n l).D.A = [] := by
  have R := newD_rec hn hl (by omega) hm
  obtain ⟨h1, h2, h3, h4, h5⟩ := open_live (newD_quiet n l) R (by decide)
  refine ⟨⟨by omega, hm, ?_, bad_quiet (newD_quiet n l), h1, h2⟩, h4, h5⟩
  unfold fits
  exact decide_eq_true ⟨hl, by omega⟩
theorem newL_turns {n l : Nat} (hm : n ≤ 4096) (hl : l + 4 ≤ n) : (newL n l).D.turns ≤ l + n + 10 := by
  have h1 := DS.run_turns (DS.new n) (foundT l)
  have hfl : (foundT l).length = l + 5 := by simp [foundT, beginT]; omega
  rw [hfl, show (DS.new n).turns = 0 from rfl] at h1
  have h2 := next_turns (LS.counted (newD n l) 1).reads
  have h3 : (LS.counted (newD n l) 1).reads.ws.length ≤ n := by
    show (readAll _ _ _ _ _ _).length ≤ n
    rw [readAll_length]
    show (List.replicate _ none).length ≤ n
    rw [List.length_replicate]
    have := DS.run_len (DS.new n) (foundT l)
    rw [show (DS.new n).T.length = n by simp [DS.new]] at this
    show (newD n l).T.length - 2 - _ ≤ n
    unfold newD
    omega
  have h4 : (LS.counted (newD n l) 1).reads.D.turns = (newD n l).turns := rfl
  show (LS.counted (newD n l) 1).reads.next.D.turns ≤ _
  unfold newD at h4 h2 h3 ⊢
  omega
end Go.Proofs.YtjajenkagcdhlaaGreat
