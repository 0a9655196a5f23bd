/- Contracts of lariatlaw4.all and of a drum's Afloat. -/
import Derived.Test.YtjajenkagcdhlaaGreatLook
import Derived.Deep.WholeRow
namespace Go.Proofs.YtjajenkagcdhlaaGreat
open Go.RowKit
set_option maxRecDepth 100000

def intOf : Value → Int | .int _ q => q | _ => 0

/-- A track of one byte. -/
def same (c : Nat) : List Nat := List.replicate 96 c
theorem same_trk {c : Nat} (h : c < 256) : Trk (same c) := ⟨fun x hx => by rw [(List.mem_replicate.1 hx).2]; exact h, by simp [same]⟩
/-- The first t places are c. -/
def upTo (c t : Nat) : List Nat := List.replicate t c ++ List.replicate (96 - t) 0
theorem upTo_set (c t : Nat) (h : t < 96) : (upTo c t).set t c = upTo c (t + 1) := by
  unfold upTo
  rw [List.set_append_right _ _ (by simp), show 96 - t = (96 - (t + 1)) + 1 by omega, List.replicate_succ, List.length_replicate, Nat.sub_self, List.set_cons_zero, List.replicate_succ' (n := t)]
  simp
theorem cells_set (xs : List Nat) (i x : Nat) : (cells xs).set i (.int .u8 (x : Int)) = cells (xs.set i x) := by simp [cells, List.map_set]
/-- A number's byte. -/
def byteOf (c : Int) : Nat := (c % 256).toNat
theorem byteOf_lt (c : Int) : byteOf c < 256 := by unfold byteOf; omega

end Go.Proofs.YtjajenkagcdhlaaGreat
