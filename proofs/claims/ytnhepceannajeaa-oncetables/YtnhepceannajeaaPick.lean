/- The contract of lariathand.Pick: a number brought within 0 to m - 1. -/
import Derived.Test.YtnhepceannajeaaProg
import Derived.WalkKit
import Derived.KernelRfl
namespace Go.Proofs.Ytnhepceannajeaa
open Go.RowKit

/-- A slice of integers that came in: it is empty, or its cells lie in a block that was there. -/
def Row (w : World) (a : Option Addr) (len : Nat) : Prop :=
  len = 0 ∨ ∃ b off zs, a = some ⟨b, off, none⟩ ∧ len ≤ List.length zs ∧ b < w.heap.size ∧ ∀ i, i < List.length zs → w.cell? ⟨b, off + i, none⟩ = some (.int .i64 (zs.getD i 0))

/-- Behind a name: what is picked. -/
def Picked (m : Int) (w : World) (e : Ending) (w' : World) : Prop := ∃ k : Nat, (k : Int) < m ∧ e = .returned (.int .i64 k) ∧ w = w'

theorem pick_any (n m : Int) (hm0 : 0 < m) (hm1 : m ≤ 1000) (w : World) : Calls Try.prog 20 #[.int .i64 n, .int .i64 m] w (Picked m w) := by
  have h1 : n.tmod m < m := Int.tmod_lt_of_pos n hm0
  have h2 : -m < n.tmod m := by
    have := Int.tmod_lt_of_pos (-n) hm0
    rw [Int.neg_tmod] at this
    omega
  have hz : ¬ m = 0 := by omega
  by_cases hneg : n.tmod m < 0
  · go_enter Try.func20, Try.ntmps20
    go_wp2
    go_ret
    exact ⟨(n.tmod m + m).toNat, by omega, by rw [Int.toNat_of_nonneg (by omega)]; rfl, rfl⟩
  · go_enter Try.func20, Try.ntmps20
    go_wp2
    go_ret
    exact ⟨(n.tmod m).toNat, by omega, by rw [Int.toNat_of_nonneg (by omega)]; rfl, rfl⟩
end Go.Proofs.Ytnhepceannajeaa
