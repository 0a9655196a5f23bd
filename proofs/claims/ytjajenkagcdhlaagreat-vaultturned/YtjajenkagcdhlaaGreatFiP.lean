/- How many records there are. -/
import Derived.Test.YtjajenkagcdhlaaGreatJW
namespace Go.Proofs.YtjajenkagcdhlaaGreat
open Go.RowKit
set_option maxRecDepth 100000

/-- How many records are there. -/
def cntR : Recs → Nat
  | [] => 0
  | r :: rs => (if r.isSome then 1 else 0) + cntR rs
theorem cntR_append : ∀ a b : Recs, cntR (a ++ b) = cntR a + cntR b
  | [], b => by simp [cntR]
  | r :: a, b => by
    show (if r.isSome then 1 else 0) + cntR (a ++ b) = _
    rw [cntR_append a b]
    show _ = (if r.isSome then 1 else 0) + cntR a + cntR b
    omega
theorem cntR_set : ∀ {rs : Recs} {k : Nat} {r0 : Rec} (r : Rec), rs[k]? = some r0 → cntR (rs.set k r) + (if r0.isSome then 1 else 0) = cntR rs + (if r.isSome then 1 else 0)
  | x :: rs, 0, r0, r, h => by
    injection h with h
    subst h
    show (if r.isSome then 1 else 0) + cntR rs + _ = (if x.isSome then 1 else 0) + cntR rs + _
    omega
  | x :: rs, k + 1, r0, r, h => by
    have := cntR_set (rs := rs) (k := k) r (by simpa using h)
    show (if x.isSome then 1 else 0) + cntR (rs.set k r) + _ = (if x.isSome then 1 else 0) + cntR rs + _
    omega
  | [], _, _, _, h => by simp at h
theorem idsTo_take (rs : Recs) : ∀ t, t ≤ rs.length → (idsTo rs t).length = cntR (rs.take t)
  | 0, _ => rfl
  | t + 1, h => by
    obtain ⟨r, hr⟩ := get_of_lt (l := rs) (n := t) (by omega)
    rw [idsTo_next, List.length_append, idsTo_take rs t (by omega), take_get hr, cntR_append, getD_of hr]
    cases r <;> rfl
theorem idsTo_all {rs : Recs} (h : rs.length = 41) : (idsTo rs 41).length = cntR rs := by
  rw [idsTo_take rs 41 (by omega), List.take_of_length_le (by omega)]
theorem idsTo_mem {rs : Recs} {t k : Nat} (h : k ∈ idsTo rs t) : k < t ∧ (rs.getD k none).isSome = true := by
  unfold idsTo at h
  rw [List.mem_filter, List.mem_range] at h
  exact h
theorem cnt0 : cntR rs0 = 0 := by decide
theorem sum0 : sumT rs0 = 0 := by decide
end Go.Proofs.YtjajenkagcdhlaaGreat
