/- Turns of a drum as if none broke; lays on tracks of which none is laid on twice. -/
import Derived.Test.YtjajenkagcdhlaaGreatDecode
namespace Go.Proofs.YtjajenkagcdhlaaGreat
open Go.RowKit
set_option maxRecDepth 100000

/-- What is settled, what is afloat. -/
abbrev TA := List (List Nat) × List (Nat × List Nat)
def ideal (s : TA) : Trn → TA
  | .lay k b => (s.1, s.2 ++ [(k, b)])
  | .settle => (over s.1 s.2, [])
def ideals (s : TA) (ts : List Trn) : TA := ts.foldl ideal s
def DS.ta (D : DS) : TA := (D.T, D.A)
theorem ideals_append (s : TA) (ts us : List Trn) : ideals s (ts ++ us) = ideals (ideals s ts) us := by simp [ideals]
theorem step_ta {D : DS} {t : Trn} (h : (D.step t).down = false) : (D.step t).ta = ideal D.ta t := by
  rw [DS.step_goes] at h
  have hg : D.goes = true := by simpa using h
  cases t with
  | lay k b => show ((D.lay k b).T, (D.lay k b).A) = (D.T, D.A ++ [(k, b)]); unfold DS.lay; rw [hg]; simp only [if_true, DS.turned_T]
  | settle => show (D.settle.T, D.settle.A) = (over D.T D.A, []); unfold DS.settle; rw [hg]; rfl
theorem step_ta_down {D : DS} {t : Trn} (h : (D.step t).down = true) : (D.step t).ta = D.ta := by
  rw [DS.step_goes] at h
  have hg : D.goes = false := by simpa using h
  cases t with
  | lay k b => show ((D.lay k b).T, (D.lay k b).A) = (D.T, D.A); unfold DS.lay; rw [hg]; simp only [Bool.false_eq_true, if_false, DS.turned_T, DS.turned_A]
  | settle => show (D.settle.T, D.settle.A) = (D.T, D.A); unfold DS.settle; rw [hg]; simp only [Bool.false_eq_true, if_false, DS.turned_T, DS.turned_A]
/-- What turns leave, if the drum breaks on their way. -/
theorem run_ta (D : DS) : ∀ ts : List Trn, ∃ j, j ≤ ts.length ∧ (D.run ts).ta = ideals D.ta (ts.take j) ∧ ((D.run ts).down = false → j = ts.length) := fun ts => by
  induction ts generalizing D with
  | nil => exact ⟨0, Nat.le_refl _, rfl, fun _ => rfl⟩
  | cons t r ih =>
    rw [DS.run_cons]
    cases hd : (D.step t).down with
    | true =>
      rw [DS.run_down hd]
      exact ⟨0, Nat.zero_le _, step_ta_down hd, fun q => by rw [hd] at q; cases q⟩
    | false =>
      obtain ⟨j, h1, h2, h3⟩ := ih (D.step t)
      exact ⟨j + 1, by rw [List.length_cons]; omega, by rw [h2, step_ta hd]; rfl, fun q => by rw [h3 q]; rfl⟩
/-- No break is set, and none was. -/
structure Quiet (D : DS) : Prop where
  left : D.left = none
  down : D.down = false
theorem Quiet.goes {D : DS} (h : Quiet D) : D.goes = true := goes_yes h.down (by rw [h.left]; simp)
theorem Quiet.step {D : DS} (h : Quiet D) (t : Trn) : Quiet (D.step t) := by
  have hg := h.goes
  refine ⟨?_, by rw [DS.step_goes, hg]; rfl⟩
  cases t with
  | lay k b => show (D.lay k b).left = none; unfold DS.lay DS.turned; rw [hg]; simp only [if_true]; rw [h.left]; rfl
  | settle => show D.settle.left = none; unfold DS.settle DS.turned; rw [hg]; simp only [if_true]; rw [h.left]; rfl
theorem Quiet.run {D : DS} (h : Quiet D) : ∀ ts : List Trn, Quiet (D.run ts) := fun ts => by
  induction ts generalizing D with
  | nil => exact h
  | cons t r ih => rw [DS.run_cons]; exact ih (h.step t)
theorem Quiet.ta {D : DS} (h : Quiet D) (ts : List Trn) : (D.run ts).ta = ideals D.ta ts := by
  obtain ⟨j, _, h2, h3⟩ := run_ta D ts
  rw [h2, h3 (h.run ts).down, List.take_length]

theorem over_mem {T : List (List Nat)} : ∀ {A : List (Nat × List Nat)}, (A.map (·.1)).Nodup → ∀ x ∈ A, x.1 < T.length → (over T A)[x.1]? = some x.2 := fun {A} => by
  induction A generalizing T with
  | nil => intro _ x hx; cases hx
  | cons y r ih =>
    intro nd x hx hl
    rw [List.map_cons, List.nodup_cons] at nd
    show (over (T.set y.1 y.2) r)[x.1]? = _
    rcases List.mem_cons.1 hx with rfl | hx
    · rw [over_other _ _ _ (fun z hz e => nd.1 (by rw [← e]; exact List.mem_map.2 ⟨z, hz, rfl⟩)), List.getElem?_set_self hl]
    · exact ih nd.2 x hx (by rw [List.length_set]; exact hl)
theorem nodup_get {α : Type} : ∀ {L : List α}, L.Nodup → ∀ {i j : Nat} {a : α}, L[i]? = some a → L[j]? = some a → i = j
  | [], _, i, j, a, h, _ => by simp at h
  | x :: L, nd, 0, 0, a, _, _ => rfl
  | x :: L, nd, 0, j + 1, a, h1, h2 => by
    rw [List.nodup_cons] at nd
    simp only [List.getElem?_cons_zero, Option.some.injEq, List.getElem?_cons_succ] at h1 h2
    subst h1
    exact absurd (List.mem_of_getElem? h2) nd.1
  | x :: L, nd, i + 1, 0, a, h1, h2 => by
    rw [List.nodup_cons] at nd
    simp only [List.getElem?_cons_zero, Option.some.injEq, List.getElem?_cons_succ] at h1 h2
    subst h2
    exact absurd (List.mem_of_getElem? h1) nd.1
  | x :: L, nd, i + 1, j + 1, a, h1, h2 => by
    rw [List.nodup_cons] at nd
    simp only [List.getElem?_cons_succ] at h1 h2
    rw [nodup_get nd.2 h1 h2]
theorem falls_mem {p : Nat → Nat} {T : List (List Nat)} {A : List (Nat × List Nat)} (nd : (A.map (·.1)).Nodup) {i : Nat} {x : Nat × List Nat} (hx : A[i]? = some x) {t : List Nat} (ht : T[x.1]? = some t) : ∀ n, i < n → n ≤ A.length → (falls p T A n)[x.1]? = some (mix (p i) x.2 t) := fun n => by
  have hl := lt_of_get ht
  have hpre : ∀ m, m ≤ i → (falls p T A m)[x.1]? = some t := fun m hm => by
    induction m with
    | zero => exact ht
    | succ m ih =>
      obtain ⟨y, hy⟩ := get_of_lt (l := A) (n := m) (by have := lt_of_get hx; omega)
      rw [falls, getD_of hy, List.getElem?_set_ne (fun e => by
        have h1 : (A.map (·.1))[m]? = some x.1 := by rw [List.getElem?_map, hy, ← e]; rfl
        have h2 : (A.map (·.1))[i]? = some x.1 := by rw [List.getElem?_map, hx]; rfl
        have := nodup_get nd h1 h2
        omega)]
      exact ih (by omega)
  induction n with
  | zero => intro h; omega
  | succ n ih =>
    intro hi hn
    by_cases e : i = n
    · subst e
      rw [falls, getD_of hx, List.getElem?_set_self (by rw [falls_length]; exact hl), getD_of (hpre i (Nat.le_refl _))]
    · obtain ⟨y, hy⟩ := get_of_lt (l := A) (n := n) (by omega)
      rw [falls, getD_of hy, List.getElem?_set_ne (fun q => by
        have h1 : (A.map (·.1))[n]? = some x.1 := by rw [List.getElem?_map, hy, ← q]; rfl
        have h2 : (A.map (·.1))[i]? = some x.1 := by rw [List.getElem?_map, hx]; rfl
        have := nodup_get nd h1 h2
        omega)]
      exact ih (by omega) (by omega)

/-- Lays of what is written, home. -/
def homeA (l : Nat) : Nat → Wri → List (Nat × List Nat)
  | _, [] => []
  | k, none :: ws => homeA l (k + 1) ws
  | k, some b :: ws => (2 + l + k, b) :: homeA l (k + 1) ws
theorem ideals_home (l : Nat) : ∀ (k : Nat) (ws : Wri) (s : TA), ideals s (homeT l k ws) = (s.1, s.2 ++ homeA l k ws)
  | k, [], s => by simp [homeT, homeA, ideals]
  | k, none :: ws, s => ideals_home l (k + 1) ws s
  | k, some b :: ws, s => by
    show ideals (ideal s (.lay (2 + l + k) b)) (homeT l (k + 1) ws) = _
    rw [ideals_home l (k + 1) ws]
    show (s.1, s.2 ++ [(2 + l + k, b)] ++ homeA l (k + 1) ws) = (s.1, s.2 ++ ((2 + l + k, b) :: homeA l (k + 1) ws))
    simp
theorem homeA_mem (l : Nat) : ∀ (k : Nat) (ws : Wri) (x : Nat × List Nat), x ∈ homeA l k ws ↔ ∃ j, ws[j]? = some (some x.2) ∧ x.1 = 2 + l + k + j
  | k, [], x => by simp [homeA]
  | k, none :: ws, x => by
    show x ∈ homeA l (k + 1) ws ↔ _
    rw [homeA_mem l (k + 1) ws x]
    constructor
    · rintro ⟨j, h1, h2⟩; exact ⟨j + 1, h1, by omega⟩
    · rintro ⟨j, h1, h2⟩
      cases j with
      | zero => simp at h1
      | succ j => exact ⟨j, h1, by omega⟩
  | k, some b :: ws, x => by
    show x ∈ (2 + l + k, b) :: homeA l (k + 1) ws ↔ _
    rw [List.mem_cons, homeA_mem l (k + 1) ws x]
    constructor
    · rintro (rfl | ⟨j, h1, h2⟩)
      · exact ⟨0, rfl, rfl⟩
      · exact ⟨j + 1, h1, by omega⟩
    · rintro ⟨j, h1, h2⟩
      cases j with
      | zero =>
        left
        obtain ⟨x1, x2⟩ := x
        simp only [List.getElem?_cons_zero, Option.some.injEq] at h1
        simp only at h2
        rw [h2, h1]
        rfl
      | succ j => exact .inr ⟨j, h1, by omega⟩
theorem homeA_nodup (l : Nat) : ∀ (k : Nat) (ws : Wri), ((homeA l k ws).map (·.1)).Nodup
  | k, [] => by simp [homeA]
  | k, none :: ws => homeA_nodup l (k + 1) ws
  | k, some b :: ws => by
    show ((2 + l + k) :: (homeA l (k + 1) ws).map (·.1)).Nodup
    rw [List.nodup_cons]
    refine ⟨fun h => ?_, homeA_nodup l (k + 1) ws⟩
    obtain ⟨x, hx, e⟩ := List.mem_map.1 h
    obtain ⟨j, _, h2⟩ := (homeA_mem l (k + 1) ws x).1 hx
    omega
/-- Lays of leaves, one behind the other. -/
def leafA : Nat → List (List Nat) → List (Nat × List Nat)
  | _, [] => []
  | k, b :: bs => (k, b) :: leafA (k + 1) bs
theorem ideals_leaf : ∀ (k : Nat) (bs : List (List Nat)) (s : TA), ideals s (leafT k bs) = (s.1, s.2 ++ leafA k bs)
  | k, [], s => by simp [leafT, leafA, ideals]
  | k, b :: bs, s => by
    show ideals (ideal s (.lay k b)) (leafT (k + 1) bs) = _
    rw [ideals_leaf (k + 1) bs]
    show (s.1, s.2 ++ [(k, b)] ++ leafA (k + 1) bs) = (s.1, s.2 ++ ((k, b) :: leafA (k + 1) bs))
    simp
theorem leafA_get : ∀ (k : Nat) (bs : List (List Nat)) (i : Nat), (leafA k bs)[i]? = (bs[i]?).map fun b => (k + i, b)
  | k, [], i => by simp [leafA]
  | k, b :: bs, 0 => rfl
  | k, b :: bs, i + 1 => by
    show (leafA (k + 1) bs)[i]? = _
    rw [leafA_get (k + 1) bs i, List.getElem?_cons_succ, show k + 1 + i = k + (i + 1) by omega]
theorem leafA_length (k : Nat) (bs : List (List Nat)) : (leafA k bs).length = bs.length := by
  induction bs generalizing k with
  | nil => rfl
  | cons b bs ih => show (leafA (k + 1) bs).length + 1 = _; rw [ih]; rfl
theorem leafA_append (k : Nat) : ∀ (bs cs : List (List Nat)), leafA k (bs ++ cs) = leafA k bs ++ leafA (k + bs.length) cs := fun bs => by
  induction bs generalizing k with
  | nil => intro cs; rfl
  | cons b bs ih => intro cs; show (k, b) :: leafA (k + 1) (bs ++ cs) = _; rw [ih, List.length_cons, show k + 1 + bs.length = k + (bs.length + 1) by omega]; rfl
theorem leafA_mem {k : Nat} {bs : List (List Nat)} {x : Nat × List Nat} (h : x ∈ leafA k bs) : ∃ j, bs[j]? = some x.2 ∧ x.1 = k + j := by
  obtain ⟨j, hj⟩ := List.getElem?_of_mem h
  rw [leafA_get] at hj
  cases hb : bs[j]? with
  | none => rw [hb] at hj; cases hj
  | some b => rw [hb] at hj; injection hj with hj; subst hj; exact ⟨j, hb, rfl⟩
theorem leafA_nodup : ∀ (k : Nat) (bs : List (List Nat)), ((leafA k bs).map (·.1)).Nodup
  | k, [] => by simp [leafA]
  | k, b :: bs => by
    show (k :: (leafA (k + 1) bs).map (·.1)).Nodup
    rw [List.nodup_cons]
    refine ⟨fun h => ?_, leafA_nodup (k + 1) bs⟩
    obtain ⟨x, hx, e⟩ := List.mem_map.1 h
    obtain ⟨j, _, h2⟩ := leafA_mem hx
    omega
/-- Leaves laid over tracks. -/
theorem over_leaf {T : List (List Nat)} {k : Nat} {bs : List (List Nat)} (h : k + bs.length ≤ T.length) (i : Nat) : (over T (leafA k bs))[i]? = if k ≤ i ∧ i < k + bs.length then bs[i - k]? else T[i]? := by
  by_cases hi : k ≤ i ∧ i < k + bs.length
  · rw [if_pos hi]
    obtain ⟨b, hb⟩ := get_of_lt (l := bs) (n := i - k) (by omega)
    have hm : (k + (i - k), b) ∈ leafA k bs := mem_of_get (n := i - k) (by rw [leafA_get, hb]; rfl)
    have := over_mem (T := T) (leafA_nodup k bs) _ hm (by simp only; omega)
    simp only at this
    rw [show k + (i - k) = i by omega] at this
    rw [this, hb]
  · rw [if_neg hi]
    refine over_other _ _ _ (fun x hx e => ?_)
    obtain ⟨j, h1, h2⟩ := leafA_mem hx
    have := lt_of_get h1
    omega
/-- What is written, laid home. -/
theorem over_home {T : List (List Nat)} {l : Nat} {ws : Wri} (h : 2 + l + ws.length ≤ T.length) (i : Nat) : (over T (homeA l 0 ws))[i]? = if 2 + l ≤ i then (match ws.getD (i - (2 + l)) none with | some b => some b | none => T[i]?) else T[i]? := by
  by_cases hi : 2 + l ≤ i
  · rw [if_pos hi]
    cases hw : ws.getD (i - (2 + l)) none with
    | some b =>
      have hb : ws[i - (2 + l)]? = some (some b) := by
        rw [List.getD_eq_getElem?_getD] at hw
        cases hq : ws[i - (2 + l)]? with
        | none => rw [hq] at hw; cases hw
        | some y => rw [hq] at hw; exact congrArg some hw
      have hl := lt_of_get hb
      have hm : (i, b) ∈ homeA l 0 ws := (homeA_mem l 0 ws (i, b)).2 ⟨i - (2 + l), hb, by simp only; omega⟩
      exact over_mem (homeA_nodup l 0 ws) _ hm (by simp only; omega)
    | none =>
      refine over_other _ _ _ (fun x hx e => ?_)
      obtain ⟨j, h1, h2⟩ := (homeA_mem l 0 ws x).1 hx
      have ej : i - (2 + l) = j := by omega
      rw [List.getD_eq_getElem?_getD, ej, h1] at hw
      cases hw
  · rw [if_neg hi]
    refine over_other _ _ _ (fun x hx e => ?_)
    obtain ⟨j, h1, h2⟩ := (homeA_mem l 0 ws x).1 hx
    omega
end Go.Proofs.YtjajenkagcdhlaaGreat
