/- Two texts of bytes are the same where the bytes are. -/
import Derived.Test.YtgbgknjfbjmhgaaFew
import Derived.Laws.Strings
namespace Go.Proofs.Ytgbgknjfbjmhgaa
open Go.RowKit

theorem str_beq {xs ys : List Nat} (hx : ∀ x ∈ xs, x < 256) (hy : ∀ x ∈ ys, x < 256) : ((strOf xs).toList == (strOf ys).toList) = decide (xs = ys) := by
  rw [ByteArray.toList_eq, ByteArray.toList_eq]
  by_cases h : xs = ys
  · subst h; simp
  · have hn : ¬ (strOf xs).data.toList = (strOf ys).data.toList := fun e => h (strOf_inj hx hy (ByteArray.ext (Array.toList_inj.1 e)))
    simp only [h, decide_false, beq_eq_false_iff_ne, ne_eq]
    exact hn

theorem body_of_track {X Y : List Nat} (lx : X.length ≤ 84) (ly : Y.length ≤ 84) : (track X = track Y) ↔ (body X = body Y) := by
  constructor
  · intro h
    have := congrArg (List.take 84) h
    rwa [track_take lx, track_take ly] at this
  · intro h
    unfold track
    rw [h]
theorem track_beq {X Y : List Nat} (hx : ∀ x ∈ X, x < 256) (hy : ∀ x ∈ Y, x < 256) (lx : X.length ≤ 84) (ly : Y.length ≤ 84) :
    (((strOf (track X)).toList == (strOf (track Y)).toList) == ((strOf (body X)).toList == (strOf (body Y)).toList)) = true := by
  rw [str_beq (track_byte hx) (track_byte hy), str_beq (body_byte hx) (body_byte hy)]
  by_cases h : body X = body Y
  · simp [h, (body_of_track lx ly).2 h]
  · have ht : ¬ track X = track Y := fun e => h ((body_of_track lx ly).1 e)
    simp [h, ht]
end Go.Proofs.Ytgbgknjfbjmhgaa
