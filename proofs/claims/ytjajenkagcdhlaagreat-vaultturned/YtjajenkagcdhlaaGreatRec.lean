/- Tracks of which a ledger can be opened, and what is home then. -/
import Derived.Test.YtjajenkagcdhlaaGreatIdeal
namespace Go.Proofs.YtjajenkagcdhlaaGreat
open Go.RowKit
set_option maxRecDepth 100000

def leavesT (T : List (List Nat)) (l : Nat) : List (List Nat) := (T.drop 2).take l
theorem leavesT_get (T : List (List Nat)) (l i : Nat) : (leavesT T l)[i]? = if i < l then T[2 + i]? else none := by
  unfold leavesT
  by_cases h : i < l
  · rw [if_pos h, List.getElem?_take_of_lt h, List.getElem?_drop]
  · rw [if_neg h, List.getElem?_eq_none (by rw [List.length_take]; omega)]
/-- Postings, one behind the other, the first one with the number n. -/
def posts (r : Nat) : Nat → List (List Ent) → List (List Nat)
  | _, [] => []
  | n, e :: es => posting r n e ++ posts r (n + 1) es
theorem posts_append (r : Nat) : ∀ (n : Nat) (es fs : List (List Ent)), posts r n (es ++ fs) = posts r n es ++ posts r (n + es.length) fs
  | n, [], fs => rfl
  | n, e :: es, fs => by
    show posting r n e ++ posts r (n + 1) (es ++ fs) = _
    rw [posts_append r (n + 1) es fs, List.length_cons, show n + 1 + es.length = n + (es.length + 1) by omega, ← List.append_assoc]
    rfl
def tookAll (ws : Wri) (es : List (List Ent)) : Wri := es.foldl took ws
theorem tookAll_length (ws : Wri) : ∀ es : List (List Ent), (tookAll ws es).length = ws.length := fun es => by
  induction es generalizing ws with
  | nil => rfl
  | cons e es ih => show (tookAll (took ws e) es).length = _; rw [ih, took_length]
theorem tookAll_snoc (ws : Wri) (es : List (List Ent)) (e : List Ent) : tookAll ws (es ++ [e]) = took (tookAll ws es) e := by simp [tookAll]
theorem goes_len {e : List Ent} {home : Nat} (h : Goes e home) (_hh : home ≤ 5000) (hl : leavesOf e.length ≤ 4096) : e.length < 65536 := by
  have := leavesOf_pos h.2.2
  omega
theorem readAll_posts {r home : Nat} (hh : home ≤ 5000) : ∀ (es : List (List Ent)) (n : Nat) (ws : Wri) (f : Nat) (rest : List (List Nat)), (∀ e ∈ es, Goes e home) → readP rest r (n + es.length) home = none → (posts r n es ++ rest).length ≤ f → (posts r n es ++ rest).length ≤ 4096 → readAll f (posts r n es ++ rest) r n home ws = tookAll ws es
  | [], n, ws, f, rest, _, hr, _, _ => readAll_none f hr
  | e :: es, n, ws, f, rest, hg, hr, hf, h4 => by
    have hge := hg e (by simp)
    have h2 := leavesOf_two hge.2.2
    have hp : posts r n (e :: es) ++ rest = posting r n e ++ (posts r (n + 1) es ++ rest) := by show (posting r n e ++ posts r (n + 1) es) ++ rest = _; rw [List.append_assoc]
    rw [hp] at hf h4 ⊢
    have hl := posting_length r n e
    rw [List.length_append, hl] at hf h4
    cases f with
    | zero => omega
    | succ f =>
      have hq := readP_posting hge hh r n (posts r (n + 1) es ++ rest) (goes_len hge hh (by omega))
      unfold readAll
      rw [hq]
      simp only
      rw [List.drop_left' hl]
      exact readAll_posts hh es (n + 1) (took ws e) f rest (fun x hx => hg x (by simp [hx])) (by rw [List.length_cons] at hr; rw [show n + 1 + es.length = n + (es.length + 1) by omega]; exact hr) (by omega) (by omega)

/-- A home track: as it is written, or as it lies. -/
def homeOf (T : List (List Nat)) (l : Nat) (ws : Wri) (k : Nat) : List Nat := match ws.getD k none with
  | some b => b
  | none => T.getD (2 + l + k) []
/-- A cover that does not count beside that of round r. -/
def OldC (r l : Nat) (o : List Nat) : Prop := (∃ s, Ends o s ∧ s < r) ∨ (o.take 84 = (cover (r + 1) l).take 84 ∧ o ≠ cover (r + 1) l)

structure RecE (T : List (List Nat)) (l r : Nat) (H : List (List Nat)) (es : List (List Ent)) : Prop where
  trk : ∀ b ∈ T, Trk b
  len : T.length = 2 + l + H.length
  many : T.length ≤ 4096
  lv : 5 ≤ l
  hm : 2 ≤ H.length
  r1 : 1 ≤ r
  r2 : r < 255
  cov : T[r % 2]? = some (cover r l)
  oth : ∃ o, T[(r + 1) % 2]? = some o ∧ OldC r l o
  low : ∀ i, i < l → ∃ b, T[2 + i]? = some b ∧ at0 b 83 ≤ r
  goes : ∀ e ∈ es, Goes e H.length
  etrk : ∀ e ∈ es, ∀ x ∈ e, Trk x.2
  pages : ∃ rest, leavesT T l = posts r 1 es ++ rest ∧ readP rest r (es.length + 1) H.length = none
  home : ∀ k, k < H.length → H[k]? = some (homeOf T l (tookAll (List.replicate H.length none) es) k)

theorem roundC_cover {r l : Nat} (h : r < 4294967296) : roundC (cover r l) = r := by
  unfold roundC cover
  rw [track_full (coverText_length r l)]
  unfold coverText
  rw [List.append_assoc, num_high4, Nat.mod_eq_of_lt h]
theorem leavesC_cover {r l : Nat} (h : l < 65536) : leavesC (cover r l) = l := by
  unfold leavesC cover
  rw [track_full (coverText_length r l)]
  unfold coverText
  rw [List.append_assoc, List.drop_left' (high_length _ 4), List.append_assoc, num_high2, Nat.mod_eq_of_lt h]
theorem readC_cover {r l n : Nat} (hr : r < 4294967296) (h1 : 1 ≤ r) (hl : l < 65536) (hf : fits l n = true) : readC (cover r l) (r % 2) n = true := by
  have e1 := roundC_cover (r := r) (l := l) hr
  have e2 := leavesC_cover (r := r) (l := l) hl
  unfold roundC at e1
  unfold leavesC at e2
  unfold readC
  rw [e1, e2, hf]
  simp
  omega
theorem readC_is {b : List Nat} {k n : Nat} (h : readC b k n = true) : b = cover (roundC b) (leavesC b) := by
  unfold readC at h
  rw [Bool.and_eq_true, Bool.and_eq_true, Bool.and_eq_true] at h
  exact of_decide_eq_true h.2.2.2
theorem oldC_low {r l k n : Nat} {o : List Nat} (hb : ∀ x ∈ o, x < 256) (h : OldC r l o) (hr : readC o k n = true) : roundC o < r := by
  have hi := readC_is hr
  have hlt : roundC o < 4294967296 := num_lt hb 4
  rcases h with ⟨s, ⟨h0, h1, h2, h3⟩, hs⟩ | ⟨h84, hne⟩
  · have e : ∀ i, 80 ≤ i → i < 84 → at0 o i = at0 (high (roundC o) 4) (i - 80) := fun i hi1 hi2 => by
      conv => lhs; rw [hi]
      unfold cover
      rw [at0_track (coverText_length _ _) hi2, coverText_end _ _ i hi1]
    have e0 := e 80 (by omega) (by omega)
    have e1 := e 81 (by omega) (by omega)
    have e2 := e 82 (by omega) (by omega)
    have e3 := e 83 (by omega) (by omega)
    have f0 : at0 (high (roundC o) 4) 0 = roundC o / 16777216 % 256 := rfl
    have f1 : at0 (high (roundC o) 4) 1 = roundC o / 65536 % 256 := rfl
    have f2 : at0 (high (roundC o) 4) 2 = roundC o / 256 % 256 := rfl
    have f3 : at0 (high (roundC o) 4) 3 = roundC o / 1 % 256 := rfl
    simp only [Nat.sub_self, show 81 - 80 = 1 from rfl, show 82 - 80 = 2 from rfl, show 83 - 80 = 3 from rfl] at e0 e1 e2 e3
    rw [f0, h0] at e0
    rw [f1, h1] at e1
    rw [f2, h2] at e2
    rw [f3, h3, Nat.div_one] at e3
    omega
  · exfalso
    apply hne
    rw [hi]
    unfold cover
    refine track_told (coverText_length _ _) (coverText_length _ _) ?_
    have := h84
    rw [hi] at this
    exact this

section
variable {D : DS} {l r : Nat} {H : List (List Nat)} {es : List (List Ent)}
theorem RecE.fits {T : List (List Nat)} (R : RecE T l r H es) : fits l T.length = true := by
  unfold Go.Proofs.YtjajenkagcdhlaaGreat.fits
  have := R.len
  have := R.hm
  have := R.lv
  exact decide_eq_true ⟨R.lv, by omega⟩
theorem RecE.coverK (R : RecE D.seen l r H es) : coverK D = some (r % 2) := by
  have hlen : D.T.length = D.seen.length := (DS.seen_length D).symm
  obtain ⟨o, ho, hO⟩ := R.oth
  have hcl : l < 65536 := by have := R.len; have := R.many; omega
  have hrc : readC (cover r l) (r % 2) D.T.length = true := readC_cover (by have := R.r2; omega) R.r1 hcl (by rw [hlen]; exact R.fits)
  have hrr : roundC (cover r l) = r := roundC_cover (by have := R.r2; omega)
  have hlow : ∀ k, readC o k D.T.length = true → roundC o < r := fun k q => oldC_low (R.trk o (mem_of_get ho)).byte hO q
  unfold Go.Proofs.YtjajenkagcdhlaaGreat.coverK
  have h2 : r % 2 = 0 ∨ r % 2 = 1 := by omega
  rcases h2 with h2 | h2
  · have h3 : (r + 1) % 2 = 1 := by omega
    have c0 := R.cov
    rw [h2] at c0 hrc ⊢
    rw [h3] at ho
    simp only [getD_of c0, getD_of ho]
    by_cases q : readC o 1 D.T.length = true
    · rw [if_pos q, if_pos hrc, if_pos (by rw [hrr]; exact .inl (hlow 1 q))]
    · rw [if_neg q, if_pos hrc]
  · have h3 : (r + 1) % 2 = 0 := by omega
    have c0 := R.cov
    rw [h2] at c0 hrc ⊢
    rw [h3] at ho
    simp only [getD_of c0, getD_of ho]
    rw [if_pos hrc]
    by_cases q : readC o 0 D.T.length = true
    · rw [if_pos q, if_neg (by rw [hrr]; have := hlow 0 q; omega)]
    · rw [if_neg q]
theorem RecE.counted (R : RecE D.seen l r H es) : LS.counted D (r % 2) = { D := D, leaves := l, round := r, posts := 0, laid := 0, ws := List.replicate H.length none, lost := false } := by
  have hcl : l < 65536 := by have := R.len; have := R.many; omega
  unfold LS.counted
  simp only [getD_of R.cov, roundC_cover (show r < 4294967296 by have := R.r2; omega), leavesC_cover hcl]
  congr 2
  have := R.len
  rw [DS.seen_length] at this
  omega
theorem RecE.reads (R : RecE D.seen l r H es) : (LS.counted D (r % 2)).reads = { D := D, leaves := l, round := r, posts := 0, laid := 0, ws := tookAll (List.replicate H.length none) es, lost := false } := by
  rw [R.counted]
  unfold LS.reads LS.pages
  simp only
  obtain ⟨rest, h1, h2⟩ := R.pages
  have hl : (leavesT D.seen l).length = l := by
    unfold leavesT
    rw [List.length_take, List.length_drop, R.len]
    omega
  rw [show (D.seen.drop 2).take l = leavesT D.seen l from rfl]
  congr 1
  rw [List.length_replicate]
  have h4 : (leavesT D.seen l).length ≤ 4096 := by rw [hl]; have := R.len; have := R.many; omega
  rw [h1] at h4 ⊢
  exact readAll_posts (by have := R.len; have := R.many; omega) es 1 _ _ rest R.goes (by rw [Nat.add_comm]; exact h2) (Nat.le_refl _) h4
end
end Go.Proofs.YtjajenkagcdhlaaGreat
