/- The walk of lariatlaw6.VaultFills. -/
import Derived.Test.YtjajenkagcdhlaaGreatFiP
namespace Go.Proofs.YtjajenkagcdhlaaGreat
open Go.RowKit
set_option maxRecDepth 100000

/-- A vault of n records that take need tracks each; none from id on. -/
def FR (w0 : World) (vp d need n id lp x : Nat) (rs : Recs) (w : World) : Prop := Vt w0 vp lp d x 40 28 3 true (fun X => X = home0 28) (home0 28) rs rs0 ps0 w ∧ sumT rs = n * need ∧ cntR rs = n ∧ (∀ (k : Nat) b, rs[k]? = some (some b) → takesN b.length = need) ∧ (∀ k, id ≤ k → k < 41 → rs[k]? = some none)
def Fills (w0 : World) (vp d need n id : Nat) (w : World) : Prop := ∃ lp x rs, FR w0 vp d need n id lp x rs w
theorem Fills.old {w0 w w' : World} {vp d need n id : Nat} (f : Fills w0 vp d need n id w) (o : Old w w') : Fills w0 vp d need n id w' := by
  obtain ⟨lp, x, rs, V, h⟩ := f
  exact ⟨lp, x, rs, V.old o, h⟩
/-- One more, if there is room. -/
theorem Fills.put {w0 w : World} {vp d need n id s c : Nat} {p : Option Addr} (f : Fills w0 vp d need n id w) (h1 : 1 ≤ id) (h40 : id ≤ 40) (hs : takesN s = need) (hm : s ≤ 60000) (hB : Has w p (zeros s)) :
    Calls Tryz.prog 21 #[.pointer (some ⟨vp, 0, none⟩), .int .i64 (id : Int), .slice p s c] w fun y w' => (27 < n * need + need ∧ y = .returned (.int .i64 3) ∧ Fills w0 vp d need n (id + 1) w') ∨ (n * need + need ≤ 27 ∧ y = .returned (.int .i64 0) ∧ Fills w0 vp d need (n + 1) (id + 1) w') := by
  obtain ⟨lp, x, rs, V, hsum, hcnt, htk, hno⟩ := f
  have hr : rs[id]? = some none := hno id (Nat.le_refl _) (by omega)
  have h2 := sumT_set (some (zeros s)) hr
  have h3 := cntR_set (some (zeros s)) hr
  have e1 : takesR (some (zeros s)) = need := by show takesN (zeros s).length = need; rw [zeros_length, hs]
  have e2 : takesR none = 0 := rfl
  have e3 : ((none : Rec).isSome) = false := rfl
  have e4 : ((some (zeros s) : Rec).isSome) = true := rfl
  rw [e1, e2] at h2
  simp only [e3, e4, if_true, Bool.false_eq_true, if_false] at h3
  refine (V.put id h1 h40 p (zeros s) s c hB (zeros_length s) hm).mono ?_
  rintro y w' ⟨_, ⟨rfl, hlt, V'⟩ | ⟨rfl, hle, V'⟩⟩
  · exact .inl ⟨by omega, rfl, lp, x, rs, V', hsum, hcnt, htk, fun k hk => hno k (by omega)⟩
  · refine .inr ⟨by omega, rfl, lp, x, _, V', by rw [Nat.succ_mul]; omega, by omega, fun k b hb => ?_, fun k hk hk2 => ?_⟩
    · by_cases e : id = k
      · subst e
        rw [List.getElem?_set_self (lt_of_get hr)] at hb
        injection hb with hb
        injection hb with hb
        subst hb
        rw [zeros_length, hs]
      · rw [List.getElem?_set_ne e] at hb
        exact htk k b hb
    · rw [List.getElem?_set_ne (by omega)]
      exact hno k (by omega) hk2
/-- One less. -/
theorem FR.drop {w0 w : World} {vp d need n id k lp x : Nat} {rs : Recs} (f : FR w0 vp d need n id lp x rs w) (hk : k ∈ idsTo rs 41) :
    Calls Tryz.prog 12 #[.pointer (some ⟨vp, 0, none⟩), .int .i64 (k : Int)] w fun y w' => y = .returned (.bool true) ∧ 1 ≤ n ∧ Fills w0 vp d need (n - 1) id w' := by
  obtain ⟨V, hsum, hcnt, htk, hno⟩ := f
  obtain ⟨hk41, hs⟩ := idsTo_mem hk
  obtain ⟨r, hr⟩ := get_of_lt (l := rs) (n := k) (by rw [V.mem.rok.r41]; omega)
  rw [getD_of hr] at hs
  have h1 : 1 ≤ k := by
    rcases Nat.eq_zero_or_pos k with e | e
    · subst e
      rw [V.mem.rok.zero] at hr
      injection hr with hr
      rw [← hr] at hs
      cases hs
    · exact e
  have h40 : k ≤ 40 := by omega
  cases r with
  | none => cases hs
  | some b =>
    have h2 := sumT_set none hr
    have h3 := cntR_set none hr
    have e1 : takesR (some b) = need := htk k b hr
    have e2 : takesR none = 0 := rfl
    have e3 : ((none : Rec).isSome) = false := rfl
    have e4 : ((some b : Rec).isSome) = true := rfl
    rw [e1, e2] at h2
    simp only [e3, e4, if_true, Bool.false_eq_true, if_false] at h3
    refine (V.drop k h1 h40 (some b) hr).mono ?_
    rintro y w' ⟨rfl, V', _⟩
    refine ⟨rfl, by omega, lp, x, _, V', ?_, by omega, fun j b' hb => ?_, fun j hj hj2 => ?_⟩
    · obtain ⟨m, rfl⟩ : ∃ m, n = m + 1 := ⟨n - 1, by omega⟩
      rw [Nat.succ_mul] at hsum
      show _ = m * need
      omega
    · by_cases e : k = j
      · subst e
        rw [List.getElem?_set_self (lt_of_get hr)] at hb
        cases hb
      · rw [List.getElem?_set_ne e] at hb
        exact htk j b' hb
    · by_cases e : k = j
      · subst e
        rw [List.getElem?_set_self (lt_of_get hr)]
      · rw [List.getElem?_set_ne e]
        exact hno j hj hj2
end Go.Proofs.YtjajenkagcdhlaaGreat
