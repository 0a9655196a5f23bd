/- Contracts of the leaves: seal.number, seal.word, lariathand.Pick. -/
import Derived.Test.YtgbgknjfbjmhgaaRow
import Derived.RegionCalls
import Derived.Lib.MinMax
import Derived.Laws.BitsAllLaws
namespace Go.Proofs.Ytgbgknjfbjmhgaa
open Go.RowKit

def intOf : Value → Int | .int _ q => q | _ => 0

theorem or_join (n c : Nat) (hn : n < 72057594037927936) (hc : c < 256) : bits .or .u64 ((n : Int) * 256) (c : Int) = ((n * 256 + c : Nat) : Int) := by
  have := bits_join .u64 64 (by decide) (fun x h0 h1 => by rw [IntKind.wrap_u64]; omega) 8 ((n : Int) * 256) (c : Int) (by omega) (by omega) (by omega) (by omega) (by omega) (by omega)
  rw [this]
  omega

theorem number_any (a : Option Addr) (xs : List Nat) (len cap : Nat) (w : World) (h : Has w a xs) (hlen : xs.length = len) (hl : len ≤ 6) :
    Calls Try.prog 19 #[.slice a len cap] w fun e w' => e = .returned (.int .u64 (num xs len : Nat)) ∧ w = w' := by
  go_enter Try.func19, Try.ntmps19
  go_wp2
  go_loop [3, 8] (fun n i => ∃ k : Nat, k ≤ len ∧ i = .int .i64 k ∧ n = .int .u64 (num xs k : Nat)) (fun _ i => len - (intOf i).toNat)
  case atStart => exact ⟨0, by omega, rfl, rfl⟩
  case round =>
    obtain ⟨k, hk, rfl, rfl⟩ := hrel
    by_cases hlt : k < len
    · obtain ⟨b, off, rfl, hc⟩ := h.cell k (by omega)
      have h1 := num_small h.byte (k := k) (by omega)
      have h2 := at0_lt h.byte k
      have h3 := or_join (num xs k) (at0 xs k) (by omega) h2
      have h4 : num xs (k + 1) = num xs k * 256 + at0 xs k := rfl
      generalize num xs k = n at *
      generalize at0 xs k = c at *
      have hil : (k : Int) < (len : Int) := by omega
      have hil' : (0 : Int) ≤ (k : Int) := by omega
      go_wp2
      go_round
      case rel => exact ⟨k + 1, by omega, by go_num, by rw [h4]; simp⟩
      case measure => simp [intOf]; omega
    · obtain rfl : k = len := by omega
      go_wp2
      go_ret
      exact ⟨rfl, rfl⟩

/-- The number of a word, of which len bytes are there. -/
def shifted (xs : List Nat) (len : Nat) : Nat := num xs len * 256 ^ (4 - len)

theorem word_any (a : Option Addr) (xs : List Nat) (len cap : Nat) (w : World) (h : Has w a xs) (hlen : xs.length = len) (hl : len ≤ 4) :
    Calls Try.prog 17 #[.slice a len cap] w fun e w' => e = .returned (.int .u64 (shifted xs len : Nat)) ∧ w = w' := by
  have hb := num_lt h.byte len
  have hc : len = 0 ∨ len = 1 ∨ len = 2 ∨ len = 3 ∨ len = 4 := by omega
  have HH := number_any a xs len cap w h hlen (by omega)
  unfold shifted
  clear h hlen
  generalize num xs len = n at *
  have HN := Lib.hid HH
  clear HH
  rcases hc with rfl | rfl | rfl | rfl | rfl
  all_goals
    simp at hb
    go_enter Try.func17, Try.ntmps17
    go_wp2_with fail
    refine HN.out.mono ?_
    rintro e w' ⟨rfl, rfl⟩
    clear HN
    go_wp2
    go_ret
    exact ⟨by simp [*], rfl⟩

theorem pick_any (n m : Int) (hm0 : 0 < m) (hm1 : m ≤ 1000) (w : World) : Calls Try.prog 15 #[.int .i64 n, .int .i64 m] w fun e w' => ∃ k : Nat, (k : Int) < m ∧ e = .returned (.int .i64 k) ∧ w = w' := by
  have h1 : n.tmod m < m := Int.tmod_lt_of_pos n hm0
  have h2 : -m < n.tmod m := by
    have := Int.tmod_lt_of_pos (-n) hm0
    rw [Int.neg_tmod] at this
    omega
  have hz : ¬ m = 0 := by omega
  by_cases hneg : n.tmod m < 0
  · go_enter Try.func15, Try.ntmps15
    go_wp2
    go_ret
    exact ⟨(n.tmod m + m).toNat, by omega, by rw [Int.toNat_of_nonneg (by omega)]; rfl, rfl⟩
  · go_enter Try.func15, Try.ntmps15
    go_wp2
    go_ret
    exact ⟨(n.tmod m).toNat, by omega, by rw [Int.toNat_of_nonneg (by omega)]; rfl, rfl⟩
end Go.Proofs.Ytgbgknjfbjmhgaa
