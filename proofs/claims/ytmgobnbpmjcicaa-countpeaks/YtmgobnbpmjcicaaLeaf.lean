/- Contracts of the leaves: the atomic numbers and flags, lariathand.Pick, lariatlaw2.raw, count.raised. -/
import Derived.Test.YtmgobnbpmjcicaaBase
import Derived.Laws.LoneSync
import Derived.Conc.MuLone
import Derived.RegionCalls
import Derived.Lib.MinMax
namespace Go.Proofs.Ytmgobnbpmjcicaa
open Go.RowKit

theorem hnot (x : Bool) (w : World) : (Op.unary .not (.bool x)).run Try.prog w = .ok (.bool (!x)) w := rfl
theorem make_func (fn : Fn) (first cap : Array Value) (w : World) : (Instr.makeFunc fn first cap).run Try.prog w = .ok (.func fn first cap) w := rfl

/-- '(*atomic.Int64).Load'. -/
theorem int_load (b : Nat) (x : Int) (y : Option Value) (w : World) (K : Num b x y w) :
    Calls Try.prog 28 #[.pointer (some ⟨b, 0, none⟩)] w fun e w' => e = .returned (.int .i64 x) ∧ w = w' := by
  have hl := run_call_load (P := Try.prog) Try.func34 (by kernel_rfl) (by kernel_rfl) (by kernel_rfl) .i64 (by kernel_rfl) K.c
  clear K
  go_enter Try.func28, Try.ntmps28
  go_wp2
  go_ret
  exact ⟨rfl, rfl⟩

/-- '(*atomic.Int64).CompareAndSwap', where it holds the old one. -/
theorem int_cas (b : Nat) (x z : Int) (y : Option Value) (w : World) (K : Num b x y w) :
    Calls Try.prog 31 #[.pointer (some ⟨b, 0, none⟩), .int .i64 x, .int .i64 z] w fun e w' => e = .returned (.bool true) ∧ w' = w.setCell ⟨b, 0, none⟩ (.int .i64 z) := by
  have hl := run_call_cas_hit (P := Try.prog) Try.func36 (by kernel_rfl) (by kernel_rfl) (by kernel_rfl) .i64 (by kernel_rfl) (y := z) K.c K.f
  clear K
  go_enter Try.func31, Try.ntmps31
  go_wp2
  go_ret
  exact ⟨rfl, rfl⟩

/-- '(*atomic.Int64).Store'. -/
theorem int_store (b : Nat) (x z : Int) (y : Option Value) (w : World) (K : Num b x y w) :
    Calls Try.prog 20 #[.pointer (some ⟨b, 0, none⟩), .int .i64 z] w fun e w' => e = .returned (.tuple #[]) ∧ w' = w.setCell ⟨b, 0, none⟩ (.int .i64 z) := by
  have hl := run_call_store (P := Try.prog) Try.func30 (by kernel_rfl) (by kernel_rfl) (by kernel_rfl) (by kernel_rfl) (k := .i64) (y := z) K.c K.f
  clear K
  go_enter Try.func20, Try.ntmps20
  go_wp2
  go_end0
  exact ⟨rfl, rfl⟩

/-- A flag as a number. -/
def bit (x : Bool) : Int := if x then 1 else 0

/-- '(*atomic.Bool).Load'. -/
theorem bool_load (b : Nat) (x : Bool) (w : World) (K : Var b (.int .u32 (bit x)) w) :
    Calls Try.prog 29 #[.pointer (some ⟨b, 0, none⟩)] w fun e w' => e = .returned (.bool x) ∧ w = w' := by
  have hl := run_call_load (P := Try.prog) Try.func35 (by kernel_rfl) (by kernel_rfl) (by kernel_rfl) .u32 (by kernel_rfl) K.c
  clear K
  cases x
  · simp only [bit] at hl
    go_enter Try.func29, Try.ntmps29
    go_wp2
    go_ret
    exact ⟨rfl, rfl⟩
  · simp only [bit] at hl
    go_enter Try.func29, Try.ntmps29
    go_wp2
    go_ret
    exact ⟨rfl, rfl⟩

theorem b32_any (x : Bool) (w : World) : Calls Try.prog 33 #[.bool x] w fun e w' => e = .returned (.int .u32 (bit x)) ∧ w = w' := by
  cases x
  all_goals
    go_enter Try.func33, Try.ntmps33
    go_wp2
    go_ret
    exact ⟨rfl, rfl⟩

theorem pick_any (n m : Int) (hm0 : 0 < m) (hm1 : m ≤ 1000) (w : World) : Calls Try.prog 19 #[.int .i64 n, .int .i64 m] w fun e w' => ∃ k : Nat, (k : Int) < m ∧ e = .returned (.int .i64 k) ∧ w = w' := by
  have h1 : n.tmod m < m := Int.tmod_lt_of_pos n hm0
  have h2 : -m < n.tmod m := by
    have := Int.tmod_lt_of_pos (-n) hm0
    rw [Int.neg_tmod] at this
    omega
  have hz : ¬ m = 0 := by omega
  by_cases hneg : n.tmod m < 0
  · go_enter Try.func19, Try.ntmps19
    go_wp2
    go_ret
    exact ⟨(n.tmod m + m).toNat, by omega, by rw [Int.toNat_of_nonneg (by omega)]; rfl, rfl⟩
  · go_enter Try.func19, Try.ntmps19
    go_wp2
    go_ret
    exact ⟨(n.tmod m).toNat, by omega, by rw [Int.toNat_of_nonneg (by omega)]; rfl, rfl⟩

theorem raw_any (n : Int) (w : World) : Calls Try.prog 18 #[.int .i64 n] w fun e w' => ∃ r, Fits r ∧ e = .returned (.int .i64 r) ∧ w = w' := by
  have h1 : n.tmod 40 < 40 := Int.tmod_lt_of_pos n (by omega)
  have h2 : -40 < n.tmod 40 := by
    have := Int.tmod_lt_of_pos (-n) (b := 40) (by omega)
    rw [Int.neg_tmod] at this
    omega
  by_cases h8 : n.tmod 9 = 8
  · go_enter Try.func18, Try.ntmps18
    go_wp2
    go_ret
    exact ⟨_, (by first | exact fits_wrap _ | (unfold Fits wrap64; omega)), rfl, rfl⟩
  · go_enter Try.func18, Try.ntmps18
    go_wp2
    go_ret
    exact ⟨n.tmod 40 - 5, by unfold Fits; omega, rfl, rfl⟩

/-- 'raised' of a number that is not beyond its limit. -/
theorem raised_any (x n m : Int) (h0 : 0 ≤ x) (h1 : x ≤ m) (h2 : m ≤ 4611686018427387904) (w : World) :
    Calls Try.prog 23 #[.int .i64 x, .int .i64 n, .int .i64 m] w fun e w' => e = .returned (.int .i64 (x + min (max n 0) (m - x))) ∧ w = w' := by
  have hs : IntKind.i64.wrap (m - x) = m - x := wrap_fits ⟨by omega, by omega⟩
  have ht : IntKind.i64.wrap (x + min (max n 0) (m - x)) = x + min (max n 0) (m - x) := wrap_fits ⟨by omega, by omega⟩
  go_enter Try.func23, Try.ntmps23
  go_wp2
  go_ret
  exact ⟨rfl, rfl⟩
end Go.Proofs.Ytmgobnbpmjcicaa
