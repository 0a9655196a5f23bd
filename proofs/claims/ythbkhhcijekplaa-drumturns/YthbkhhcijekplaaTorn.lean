/- What DrumTorn's rounds leave of a drum. -/
import Derived.Test.YthbkhhcijekplaaKnown
namespace Go.Proofs.Ythbkhhcijekplaa
open Go.RowKit

/-- No break is set, and none was. -/
structure Calm (D : DS) (n t : Nat) : Prop where
  len : D.T.length = n
  left : D.left = none
  down : D.down = false
  turns : D.turns = t
theorem Calm.goes {D : DS} {n t : Nat} (h : Calm D n t) : D.goes = true := goes_yes h.down (by rw [h.left]; simp)
theorem Calm.err {D : DS} {n t : Nat} (h : Calm D n t) : D.err = 0 := by unfold DS.err; rw [h.goes]; rfl
theorem Calm.new (n : Nat) : Calm (DS.new n) n 0 := ⟨by simp [DS.new], rfl, rfl, rfl⟩
theorem Calm.lay {D : DS} {n t : Nat} (h : Calm D n t) (k : Nat) (xs : List Nat) : Calm (D.lay k xs) n (t + 1) := by
  unfold DS.lay DS.turned
  rw [h.goes]
  simp only [if_true]
  exact ⟨h.len, by rw [h.left]; rfl, h.down, by rw [h.turns]⟩
theorem Calm.settle {D : DS} {n t : Nat} (h : Calm D n t) : Calm D.settle n (t + 1) := by
  unfold DS.settle DS.turned
  rw [h.goes]
  simp only [if_true]
  exact ⟨by rw [DS.seen_length, h.len], by rw [h.left]; rfl, h.down, by rw [h.turns]⟩
theorem Calm.fall {D : DS} {n t : Nat} (h : Calm D n t) (p : Nat → Nat) : Calm (D.fall p) n t := ⟨by simp only [DS.fall]; rw [falls_length, h.len], rfl, rfl, h.turns⟩
theorem Calm.lay_T {D : DS} {n t : Nat} (h : Calm D n t) (k : Nat) (xs : List Nat) : (D.lay k xs).T = D.T := by unfold DS.lay; rw [h.goes]; simp only [if_true]; exact D.turned_T
theorem Calm.lay_A {D : DS} {n t : Nat} (h : Calm D n t) (k : Nat) (xs : List Nat) : (D.lay k xs).A = D.A ++ [(k, xs)] := by unfold DS.lay; rw [h.goes]; simp only [if_true]
theorem Calm.settle_T {D : DS} {n t : Nat} (h : Calm D n t) : D.settle.T = D.seen := by unfold DS.settle; rw [h.goes]; simp only [if_true]
theorem Calm.settle_A {D : DS} {n t : Nat} (h : Calm D n t) : D.settle.A = [] := by unfold DS.settle; rw [h.goes]; simp only [if_true]

/-- Of Lays of which nothing is done nothing is left. -/
theorem falls_none {p : Nat → Nat} {T : List (List Nat)} {A : List (Nat × List Nat)} (hA : ∀ x ∈ A, x.1 < T.length) : ∀ n, n ≤ A.length → (∀ i, i < n → p i = 0) → falls p T A n = T
  | 0, _, _ => rfl
  | n + 1, hn, hp => by
    have ih := falls_none hA n (by omega) (fun i hi => hp i (by omega))
    obtain ⟨x, hx⟩ := get_of_lt (l := A) (n := n) (by omega)
    obtain ⟨o, ho⟩ := get_of_lt (l := T) (n := x.1) (hA x (mem_of_get hx))
    have e : T.set x.1 o = T := by
      obtain ⟨hl, rfl⟩ := List.getElem?_eq_some_iff.1 ho
      exact List.set_getElem_self hl
    rw [falls, ih, getD_of hx, hp n (by omega), mix_none, getD_of ho, e]

/-- The first i tracks have what was laid. -/
structure Laid (D : DS) (f : Nat → Nat) (i : Nat) : Prop where
  calm : Calm D 11 i
  see : ∀ k, k < i → D.seen[k]? = some (same (f k))
theorem Laid.next {D : DS} {f : Nat → Nat} {i : Nat} (h : Laid D f i) (hi : i < 11) : Laid (D.lay i (same (f i))) f (i + 1) := by
  refine ⟨h.calm.lay _ _, fun k hk => ?_⟩
  rw [DS.seen_lay _ _ h.calm.goes]
  by_cases e : i = k
  · subst e
    rw [List.getElem?_set_self (by rw [DS.seen_length, h.calm.len]; exact hi)]
  · rw [List.getElem?_set_ne e]
    exact h.see k (by omega)

/-- All tracks are settled; i Lays are afloat. -/
structure Sett (D : DS) (f : Nat → Nat) (i : Nat) : Prop where
  calm : Calm D 11 (12 + i)
  tr : ∀ k, k < 11 → D.T[k]? = some (same (f k))
  afl : D.A.length = i
theorem Laid.sett {D : DS} {f : Nat → Nat} (h : Laid D f 11) : Sett D.settle f 0 :=
  ⟨h.calm.settle, fun k hk => by rw [h.calm.settle_T]; exact h.see k hk, by rw [h.calm.settle_A]; rfl⟩
theorem Sett.next {D : DS} {f : Nat → Nat} {i : Nat} (h : Sett D f i) (k : Nat) (xs : List Nat) : Sett (D.lay k xs) f (i + 1) :=
  ⟨h.calm.lay _ _, fun j hj => by rw [h.calm.lay_T]; exact h.tr j hj, by rw [h.calm.lay_A]; simp [h.afl]⟩
/-- What the torn Lay leaves. -/
theorem Sett.torn {D : DS} {f : Nat → Nat} {i : Nat} (h : Sett D f i) (ok : D.Ok) (t : Nat) (ht : t < 11) (xs : List Nat) (cut : Int) :
    ∀ k, k < 11 → ((D.lay t xs).fall (partOf [] (i : Int) cut)).T.getD k [] = if k = t then mix (cutOf cut) xs (same (f t)) else same (f k) := fun k hk => by
  have hA : (D.lay t xs).A = D.A ++ [(t, xs)] := h.calm.lay_A _ _
  have hT : (D.lay t xs).T = D.T := h.calm.lay_T _ _
  have hl : (D.A ++ [(t, xs)]).length = i + 1 := by simp [h.afl]
  have hlt : ∀ x ∈ D.A ++ [(t, xs)], x.1 < D.T.length := fun x hx => by
    rcases List.mem_append.1 hx with h1 | h1
    · exact (ok.lay x h1).1
    · obtain rfl := List.mem_singleton.1 h1
      rw [h.calm.len]; exact ht
  have h0 := falls_none (p := partOf [] (i : Int) cut) hlt i (by omega) (fun j hj => by
    unfold partOf
    rw [if_neg (by simp [among]), if_neg (by omega)])
  have hlast : (D.A ++ [(t, xs)])[i]? = some (t, xs) := by rw [← h.afl]; simp
  have hp : partOf [] (i : Int) cut i = cutOf cut := by unfold partOf; rw [if_neg (by simp [among]), if_pos rfl]
  simp only [DS.fall, hA, hT, hl]
  rw [falls, h0, getD_of hlast, hp, getD_of (h.tr t ht)]
  by_cases e : k = t
  · subst e
    rw [if_pos rfl]
    exact getD_of (List.getElem?_set_self (by rw [h.calm.len]; exact hk))
  · rw [if_neg e]
    refine getD_of ?_
    rw [List.getElem?_set_ne (fun q => e q.symm)]
    exact h.tr k hk
theorem strOf_data (xs : List Nat) : (strOf xs).data.toList = xs.map fun (x : Nat) => UInt8.ofNat x := by
  unfold strOf
  rw [strOfNums_data, List.map_map]
  apply List.map_congr_left
  intro x _
  simp
theorem strOf_mix (xs ys : List Nat) (c : Nat) (hy : ys.length = 96) : (strOf xs).extract 0 c ++ (strOf ys).extract c 96 = strOf (mix c xs ys) := by
  apply ByteArray.ext
  apply Array.ext'
  rw [strOf_data]
  unfold mix
  rw [ByteArray.data_append, Array.toList_append, ByteArray.data_extract, ByteArray.data_extract, Array.toList_extract, Array.toList_extract, strOf_data, strOf_data, List.map_append, List.map_take, List.map_drop]
  simp [List.extract]
  exact List.take_of_length_le (by simp [hy])
theorem strOf_size (xs : List Nat) : (strOf xs).size = xs.length := by
  have := congrArg List.length (strOf_data xs)
  simpa using this
end Go.Proofs.Ythbkhhcijekplaa
