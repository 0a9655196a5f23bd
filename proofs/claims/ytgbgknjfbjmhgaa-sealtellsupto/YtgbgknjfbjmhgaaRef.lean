/- Contracts of lariatref3's zeros, number, high, Sums. -/
import Derived.Test.YtgbgknjfbjmhgaaAdds
import Derived.Lib.MinMax
namespace Go.Proofs.Ytgbgknjfbjmhgaa
open Go.RowKit

theorem Grows.old {w w' : World} {g c : Nat} {xs : List Nat} (h : Grows w g c xs) (m : Old w w') : Grows w' g c xs := by
  obtain ⟨rest, hg, hl⟩ := h.row
  exact ⟨h.byte, rest, by rw [m.block g h.own.lt (fun h => h)]; exact hg, hl⟩

theorem zeros_any (n : Int) (m : Nat) (hm : max 0 n = (m : Int)) (hb : m ≤ 1000) (w : World) :
    Calls Try.prog 20 #[.int .i64 n] w fun e w' => e = .returned (.slice (some ⟨w.heap.size, 0, none⟩) m m) ∧ w' = w.alloc (.cells (cells (zeros m)).toArray 5) := by
  have hmk := make_bytes m (by omega) w
  go_enter Try.func20, Try.ntmps20
  go_wp2
  go_ret
  exact ⟨rfl, rfl⟩

theorem refnumber_any (a : Option Addr) (xs : List Nat) (len cap : Nat) (w : World) (h : Has w a xs) (hlen : xs.length = len) (hl : len ≤ 6) :
    Calls Try.prog 21 #[.slice a len cap] w fun e w' => e = .returned (.int .i64 (num xs len : Nat)) ∧ w = w' := by
  go_enter Try.func21, Try.ntmps21
  go_wp2
  go_loop [3, 4] (fun n i => ∃ k : Nat, k ≤ len ∧ i = .int .i64 k ∧ n = .int .i64 (num xs k : Nat)) (fun _ i => len - (intOf i).toNat)
  case atStart => exact ⟨0, by omega, rfl, rfl⟩
  case round =>
    obtain ⟨k, hk, rfl, rfl⟩ := hrel
    by_cases hlt : k < len
    · obtain ⟨b, off, rfl, hc⟩ := h.cell k (by omega)
      have h1 := num_small h.byte (k := k) (by omega)
      have h2 := at0_lt h.byte k
      have h4 : num xs (k + 1) = num xs k * 256 + at0 xs k := rfl
      generalize num xs k = n at *
      generalize at0 xs k = c at *
      have hil : (k : Int) < (len : Int) := by omega
      have hil' : (0 : Int) ≤ (k : Int) := by omega
      go_wp2
      go_round
      case rel => exact ⟨k + 1, by omega, by go_num, by rw [h4]; congr 1; omega⟩
      case measure => simp [intOf]; omega
    · obtain rfl : k = len := by omega
      go_wp2
      go_ret
      exact ⟨rfl, rfl⟩

/-- A slice that is nil, or a row of one's own, not older than B. -/
def Mine (w : World) (B : Nat) (v : Value) (xs : List Nat) : Prop := (v = .slice none 0 0 ∧ xs = []) ∨ ∃ g c, v = .slice (some ⟨g, 0, none⟩) xs.length c ∧ B ≤ g ∧ Grows w g c xs

/-- One more byte. -/
theorem mine_more (w0 w : World) (v : Value) (xs : List Nat) (x B : Nat) (h : Mine w B v xs) (hB : w0.heap.size ≤ B) (hBw : B ≤ w.heap.size) (T : Old w0 w) (hx : x < 256) (hl : xs.length ≤ 1000) :
    ∃ v' w', (∀ ty, (Builtin.append_ #[25, 25] ty #[v, .slice (some ⟨w.heap.size, 0, none⟩) 1 1]).run Try.prog (w.alloc (.cells #[.int .u8 (x : Int)] 5)) = .ok v' w') ∧ Mine w' B v' (xs ++ [x]) ∧ B ≤ w'.heap.size ∧ Old w0 w' := by
  have T1 : Old w (w.alloc (.cells #[.int .u8 (x : Int)] 5)) := (Touch.refl _ w).alloc _
  have hs1 : w.heap.size ≤ (w.alloc (.cells #[.int .u8 (x : Int)] 5)).heap.size := T1.size
  have hH : Has (w.alloc (.cells #[.int .u8 (x : Int)] 5)) (some ⟨w.heap.size, 0, none⟩) [x] := Has.new w [x] (fun y hy => by simp at hy; omega) (0, 0)
  have T2 := T.trans T1
  generalize w.alloc (.cells #[.int .u8 (x : Int)] 5) = w1 at *
  rcases h with ⟨rfl, rfl⟩ | ⟨g, c, rfl, hg, G⟩
  · obtain ⟨i0, hi, hz0, hz1, hz2⟩ := info_parts info5
    have hs : Src Try.prog i0.size 25 (.slice (some ⟨w.heap.size, 0, none⟩) 1 1) 1 (cells [x]) w1 := by rw [hz1]; exact hH.src rfl
    have hr := fun ty => run_append_grow_src (P := Try.prog) w1 25 25 ty 5 i0 (.int .u8 0) Try.underlying25 hi hz0 none 0 0 []
      (run_firstCells_none (P := Try.prog) _ i0.size 0 0 0) (.slice (some ⟨w.heap.size, 0, none⟩) 1 1) 1 _ hs (by omega) (by omega) (growslice_fits (by omega) (by rw [hz2]; omega))
    simp only [Nat.zero_add, List.nil_append] at hr
    have hge := grownCap_ge w1 1 0 5
    refine ⟨_, _, hr, .inr ⟨_, _, rfl, ?_, hH.byte, (Builtin.zeroCells (Value.int .u8 0).cells (grownCap w1 1 0 5 - 1)).toList, ?_, ?_⟩, ?_, (T2.drew).alloc _⟩
    · omega
    · rw [show w1.heap.size = w1.drew.heap.size from rfl, heap_alloc_new]
      congr 2
      apply Array.ext'
      simp only [Array.toList_append, List.nil_append]
    · rw [zero_length]; simp; omega
    · have : w1.heap.size ≤ (w1.drew.alloc (.cells ((cells [x]).toArray ++ Builtin.zeroCells (Value.int .u8 0).cells (grownCap w1 1 0 5 - 1)) 5)).heap.size := by simp
      omega
  · obtain ⟨g', c', w', hr, hg', G', T'⟩ := append_onto w1 g c xs.length xs [x] _ 1 1 (G.old T1) hH rfl rfl (by omega)
    refine ⟨_, w', hr, .inr ⟨g', c', by simp, ?_, G'⟩, Nat.le_trans (by omega) T'.size, T2.own T' (by omega)⟩
    rcases hg' with h | h <;> omega

theorem digits_step (n t : Nat) (ht : t < 6) : (digits n).take (t + 1) = (digits n).take t ++ [n / 256 ^ (5 - t) % 256] := by
  have hc : t = 0 ∨ t = 1 ∨ t = 2 ∨ t = 3 ∨ t = 4 ∨ t = 5 := by omega
  rcases hc with rfl | rfl | rfl | rfl | rfl | rfl <;> rfl

set_option maxRecDepth 100000 in
theorem high_any (n : Nat) (_hn : n < 281474976710656) (w : World) :
    Calls Try.prog 22 #[.int .i64 (n : Int), .int .i64 6] w fun e w' => ∃ g c, e = .returned (.slice (some ⟨g, 0, none⟩) 6 c) ∧ w.heap.size ≤ g ∧ Grows w' g c (digits n) ∧ Old w w' := by
  go_enter Try.func22, Try.ntmps22
  go_wp2_with fail
  have M0 : Hid (Mine w w.heap.size (.slice none 0 0) ((digits n).take 0)) := .inl ⟨rfl, rfl⟩
  have B0 : Hid (w.heap.size ≤ w.heap.size) := Nat.le_refl _
  have T0 : Hid (Old w w) := Touch.refl _ _
  go_loopw [1, 5] (fun s v wx => ∃ t : Nat, t ≤ 6 ∧ s = .int .i64 (6 - (t : Int)) ∧ Hid (Mine wx w.heap.size v ((digits n).take t)) ∧ Hid (w.heap.size ≤ wx.heap.size) ∧ Hid (Old w wx)) (fun s _ _ => (intOf s).toNat)
  case atStart => exact ⟨0, by omega, rfl, M0, B0, T0⟩
  case round =>
    obtain ⟨t, ht, rfl, M, B, T⟩ := hrel
    clear M0 B0 T0
    by_cases hlt : t < 6
    · obtain ⟨v', w', hap, M', B', T'⟩ := mine_more w wr u5 _ (n / 256 ^ (5 - t) % 256) w.heap.size M.out (Nat.le_refl _) B.out T.out (Nat.mod_lt _ (by decide)) (by rw [List.length_take]; have : (digits n).length = 6 := rfl; omega)
      rw [← digits_step n t hlt] at M'
      have HM := Lib.hid M'
      have HB := Lib.hid B'
      have HT := Lib.hid T'
      clear M' B' T' M B T
      have hsh : ((n / 256 ^ (5 - t) % 256 : Nat) : Int) = (n : Int) / 2 ^ (8 * (6 - t - 1)) % 256 := by
        have hc : t = 0 ∨ t = 1 ∨ t = 2 ∨ t = 3 ∨ t = 4 ∨ t = 5 := by omega
        rcases hc with rfl | rfl | rfl | rfl | rfl | rfl <;> simp
      simp only [hsh] at hap
      clear hsh
      go_wp2_with (first | (at_builtin; refine wpList_append_run rfl _ _ 25 25 rfl _ _ rfl rfl _ _ (hap _) ?_))
      exact ⟨⟨t + 1, by omega, by congr 1; omega, HM, HB, HT⟩, by simp only [intOf]; omega⟩
    · obtain rfl : t = 6 := by omega
      clear hlt
      rcases M.out with ⟨_, h0⟩ | ⟨g, c, rfl, hg, G⟩
      · cases h0
      · have HG : Hid (Grows wr g c (digits n)) := G
        clear G M B
        have hv : (Value.slice (some ⟨g, 0, none⟩) ((digits n).take 6).length c) = .slice (some ⟨g, 0, none⟩) 6 c := rfl
        rw [hv]
        go_wp2_with fail
        go_ret
        exact ⟨g, c, rfl, hg, HG.out, T.out⟩
end Go.Proofs.Ytgbgknjfbjmhgaa
