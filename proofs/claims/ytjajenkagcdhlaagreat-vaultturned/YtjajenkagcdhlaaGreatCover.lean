/- Contracts of ledger.number, closed, layCover, Leaves, fits, bytes.Equal, slices.Clone. -/
import Derived.Test.YtjajenkagcdhlaaGreatPut
import Derived.Laws.Strings
import Derived.Lib.SliceRun
namespace Go.Proofs.YtjajenkagcdhlaaGreat
open Go.RowKit
set_option maxRecDepth 100000

theorem or_join64 (n c : Nat) (hn : n < 281474976710656) (hc : c < 256) : bits .or .i64 ((n : Int) * 256) (c : Int) = ((n * 256 + c : Nat) : Int) := by
  have := bits_join .i64 62 (by decide) (fun x h0 h1 => by rw [IntKind.wrap_i64]; omega) 8 ((n : Int) * 256) (c : Int) (by omega) (by omega) (by omega) (by omega) (by omega) (by omega)
  rw [this]
  omega

theorem number_any (a : Option Addr) (xs : List Nat) (len cap : Nat) (w : World) (h : Has w a xs) (hlen : xs.length = len) (hl : len ≤ 4) :
    Calls Tryz.prog 112 #[.slice a len cap] w fun e w' => e = .returned (.int .i64 (num xs len : Nat)) ∧ w = w' := by
  go_enter Tryz.func112, Tryz.ntmps112
  go_wp2
  go_loop [3, 8] (fun n i => ∃ k : Nat, k ≤ len ∧ i = .int .i64 k ∧ n = .int .i64 (num xs k : Nat)) (fun _ i => len - (intOf i).toNat)
  case atStart => exact ⟨0, by omega, rfl, rfl⟩
  case round =>
    obtain ⟨k, hk, rfl, rfl⟩ := hrel
    by_cases hlt : k < len
    · obtain ⟨b, off, rfl, hc⟩ := h.cell k (by omega)
      have h1 := num_small h.byte (k := k) (by omega)
      have h2 := at0_lt h.byte k
      have h3 := or_join64 (num xs k) (at0 xs k) (by omega) h2
      have h4 : num xs (k + 1) = num xs k * 256 + at0 xs k := rfl
      generalize num xs k = n at *
      generalize at0 xs k = c at *
      have hil : (k : Int) < (len : Int) := by omega
      have hil' : (0 : Int) ≤ (k : Int) := by omega
      go_wp2
      go_round
      case rel => exact ⟨k + 1, by omega, by go_num, by rw [h4]; simp⟩
      case measure => simp [intOf]; omega
    · obtain rfl : k = len := by omega
      go_wp2
      go_ret
      exact ⟨rfl, rfl⟩

/-- A call's answer: a new row of 96 bytes. -/
def Row96 (xs : List Nat) (w : World) (e : Ending) (w' : World) : Prop := ∃ g, e = .returned (.slice (some ⟨g, 0, none⟩) 96 96) ∧ w.heap.size ≤ g ∧ Own w' g xs ∧ Old w w'

theorem closed_any (a : Option Addr) (xs : List Nat) (len cap : Nat) (w : World) (h : Has w a xs) (hlen : xs.length = len) (hl : len ≤ 84) :
    Calls Tryz.prog 111 #[.slice a len cap] w (Row96 (track xs) w) := by
  have H := Lib.hid (close_any a xs len cap w h hlen hl)
  clear h
  go_enter Tryz.func111, Tryz.ntmps111
  go_wp2_with fail
  refine H.out.mono ?_
  rintro e w1 ⟨rfl, O1, T1⟩
  have HO := Lib.hid O1
  have HT := Lib.hid T1
  clear O1 T1 H
  go_wp2_with fail
  go_ret
  exact ⟨_, rfl, Nat.le_refl _, HO.out, HT.out⟩

theorem coverText_length (r l : Nat) : (coverText r l).length = 84 := by simp [coverText, high_length, zeros_length]

set_option maxHeartbeats 1600000 in
theorem layCover_any (r l : Nat) (w : World) (hr : r ≤ 140737488355328) (hl : l ≤ 140737488355328) :
    Calls Tryz.prog 107 #[.int .i64 r, .int .i64 l] w (Row96 (cover r l) w) := by
  go_enter Tryz.func107, Tryz.ntmps107
  go_wp2_with fail
  refine (put_any (.slice none 0 0) [] r 4 w.heap.size w (Mine.nil _ _) (Nat.le_refl _) (by omega) hr (by simp)).mono ?_
  rintro e w1 ⟨v1, rfl, P1⟩
  have HP1 := Lib.hid P1
  clear P1
  go_wp2_with fail
  refine (put_any v1 _ l 2 w.heap.size w1 HP1.out.mine (HP1.out.size (Nat.le_refl _)) (by omega) hl (by simp [high_length])).mono ?_
  rintro e w2 ⟨v2, rfl, P2⟩
  obtain ⟨v3, w3, hap, P3⟩ := mine_zeros w2 w.heap.size v2 _ 74 P2.mine (P2.size (HP1.out.size (Nat.le_refl _))) (by simp [high_length])
  obtain ⟨a2, c2, rfl, hc2, _⟩ := P2.mine.form
  have hlen : ([] ++ high r 4 ++ high l 2).length = 6 := by simp [high_length]
  have HP3 := Lib.hid ((HP1.out.trans P2).trans P3)
  rw [hlen] at hap ⊢
  clear P2 P3 HP1 hlen hc2
  have hap' : ∀ ty, (Builtin.append_ #[30, 3] ty #[.slice a2 6 c2, .int .i64 74]).run Tryz.prog w2 = .ok v3 w3 := hap
  clear hap
  go_wp2_with (first | (at_builtin; refine wpList_append_run rfl _ _ 30 3 rfl _ _ rfl rfl _ _ (hap' _) ?_))
  refine (put_any v3 _ r 4 w.heap.size w3 HP3.out.mine (HP3.out.size (Nat.le_refl _)) (by omega) hr (by simp [high_length, zeros_length])).mono ?_
  rintro e w4 ⟨v4, rfl, P4⟩
  have HP4 := Lib.hid (HP3.out.trans P4)
  obtain ⟨a4, c4, e4, hc4, H4⟩ := P4.mine.form
  have hT : [] ++ high r 4 ++ high l 2 ++ zeros 74 ++ high r 4 = coverText r l := by simp [coverText]
  rw [hT] at e4 H4 HP4
  rw [coverText_length] at e4
  subst e4
  have HH := Lib.hid H4
  clear P4 HP3 H4 hT hap' hc4
  go_wp2_with fail
  refine (closed_any a4 (coverText r l) 84 c4 w4 HH.out (coverText_length r l) (by omega)).mono ?_
  rintro e w5 ⟨g, rfl, hg, O5, T5⟩
  have HO := Lib.hid O5
  have HT := Lib.hid (HP4.out.of_nil.trans T5)
  have Hg := Lib.hid (Nat.le_trans HP4.out.touch.size hg)
  clear O5 T5 hg
  go_wp2_with fail
  go_ret
  exact ⟨g, rfl, Hg.out, HO.out, HT.out⟩

theorem leaves_any (n : Nat) (w : World) (hn : n ≤ 1000000) : Calls Tryz.prog 73 #[.int .i64 n] w fun e w' => e = .returned (.int .i64 (leavesOf n : Nat)) ∧ w = w' := by
  unfold leavesOf
  by_cases h0 : n = 0
  · subst h0
    go_enter Tryz.func73, Tryz.ntmps73
    go_wp2
    go_ret
    exact ⟨rfl, rfl⟩
  · have h1 : ¬ (n : Int) < 1 := by omega
    rw [if_neg h0]
    have e1 : (n : Int).tdiv 64 = ((n / 64 : Nat) : Int) := by rw [Int.tdiv_eq_ediv_of_nonneg (by omega)]; omega
    have e2 : (n : Int).tmod 64 = ((n % 64 : Nat) : Int) := by rw [Int.tmod_eq_emod_of_nonneg (by omega)]; omega
    have hq : n / 64 * 98 + (2 + n % 64 * 98 + 63) / 64 = (2 + n * 98 + 63) / 64 := by omega
    have hb : n / 64 ≤ 1000000 := by omega
    have hc : n % 64 < 64 := by omega
    rw [← hq]
    clear hq
    generalize n / 64 = q at *
    generalize n % 64 = r at *
    have e3 : (2 + (r : Int) * 98 + 64 - 1).tdiv 64 = (((2 + r * 98 + 63) / 64 : Nat) : Int) := by rw [Int.tdiv_eq_ediv_of_nonneg (by omega)]; omega
    have hd : (2 + r * 98 + 63) / 64 ≤ 1000 := by omega
    generalize (2 + r * 98 + 63) / 64 = m at *
    have e4 : (9223372036854775807 - (m : Int)).tdiv 98 = (9223372036854775807 - (m : Int)) / 98 := Int.tdiv_eq_ediv_of_nonneg (by omega)
    have h5 : ¬ (9223372036854775807 - (m : Int)) / 98 < (q : Int) := by omega
    go_enter Tryz.func73, Tryz.ntmps73
    go_wp2
    go_ret
    exact ⟨rfl, rfl⟩
theorem leaves_neg (n : Int) (w : World) (hn : n < 0) : Calls Tryz.prog 73 #[.int .i64 n] w fun e w' => e = .returned (.int .i64 0) ∧ w = w' := by
  have h1 : n < 1 := by omega
  go_enter Tryz.func73, Tryz.ntmps73
  go_wp2
  go_ret
  exact ⟨rfl, rfl⟩

theorem fits_any (l n : Nat) (w : World) (hn : n ≤ 4096) : Calls Tryz.prog 89 #[.int .i64 l, .int .i64 n] w fun e w' => e = .returned (.bool (fits l n)) ∧ w = w' := by
  unfold fits
  by_cases h1 : (5 : Int) ≤ (l : Int)
  · by_cases h2 : (l : Int) ≤ (n : Int) - 2 - 2
    · have e : (5 ≤ l ∧ l + 4 ≤ n) := by omega
      simp only [e, and_self, decide_true]
      clear e
      go_enter Tryz.func89, Tryz.ntmps89
      go_wp2
      go_ret
      exact ⟨rfl, rfl⟩
    · have e : ¬ (5 ≤ l ∧ l + 4 ≤ n) := by omega
      simp only [e, decide_false]
      clear e
      go_enter Tryz.func89, Tryz.ntmps89
      go_wp2
      go_ret
      exact ⟨rfl, rfl⟩
  · have e : ¬ (5 ≤ l ∧ l + 4 ≤ n) := by omega
    simp only [e, decide_false]
    clear e
    go_enter Tryz.func89, Tryz.ntmps89
    go_wp2
    go_ret
    exact ⟨rfl, rfl⟩

theorem str_beq {xs ys : List Nat} (hx : ∀ x ∈ xs, x < 256) (hy : ∀ x ∈ ys, x < 256) : ((strOf xs).toList == (strOf ys).toList) = decide (xs = ys) := by
  rw [ByteArray.toList_eq, ByteArray.toList_eq]
  by_cases h : xs = ys
  · subst h; simp
  · have hn : ¬ (strOf xs).data.toList = (strOf ys).data.toList := fun e => h (strOf_inj hx hy (ByteArray.ext (Array.toList_inj.1 e)))
    simp only [h, decide_false, beq_eq_false_iff_ne, ne_eq]
    exact hn

theorem equal_any (a b : Option Addr) (xs ys : List Nat) (n m c d : Nat) (w : World) (ha : Has w a xs) (hb : Has w b ys) (hn : xs.length = n) (hm : ys.length = m) :
    Calls Tryz.prog 70 #[.slice a n c, .slice b m d] w fun e w' => e = .returned (.bool (decide (xs = ys))) ∧ w = w' := by
  have h1 := str_any w a xs n c ha hn
  have h2 := str_any w b ys m d hb hm
  have HB := Lib.hid (str_beq ha.byte hb.byte)
  clear ha hb hn hm
  rw [← HB.out]
  clear HB
  go_enter Tryz.func70, Tryz.ntmps70
  go_wp2
  go_ret
  exact ⟨rfl, rfl⟩

theorem eql_nil (a : Option Addr) (n c : Nat) (w : World) : (binOp .eql 30 (.slice a n c) (.slice none 0 0)).run Tryz.prog w = .ok (.bool a.isNone) w := Lib.run_eql_slice_nil w 30 5 a n c 0 0 Tryz.underlying30
theorem neq_nil (a : Option Addr) (n c : Nat) (w : World) : (binOp .neq 30 (.slice a n c) (.slice none 0 0)).run Tryz.prog w = .ok (.bool (!a.isNone)) w := by
  simp only [binOp]
  simp [Op.equal, Op.maxDepth, Lib.run_equalIn_slice_nil w 9999 30 5 a n c 0 0 Tryz.underlying30]

theorem clone_any (a : Addr) (xs : List Nat) (n c : Nat) (w : World) (h : Has w (some a) xs) (hn : xs.length = n) (hm : n ≤ 1000000) :
    Calls Tryz.prog 53 #[.slice (some a) n c] w fun e w' => ∃ g d, e = .returned (.slice (some ⟨g, 0, none⟩) n d) ∧ w.heap.size ≤ g ∧ Grows w' g d xs ∧ Old w w' := by
  obtain ⟨g, d, w', hap, hg, G, T⟩ := append_new w (some a) xs n c h hn (by omega)
  have HG := Lib.hid G
  have HT := Lib.hid T
  have Hg := Lib.hid hg
  clear h G T hg
  have hq := eql_nil (some a) n c
  go_enter Tryz.func53, Tryz.ntmps53
  go_wp2_with (first | (at_builtin; refine wpList_append_run rfl _ _ 30 30 rfl _ _ rfl rfl _ _ (hap _) ?_))
  go_ret
  exact ⟨g, d, rfl, Hg.out, HG.out, HT.out⟩
end Go.Proofs.YtjajenkagcdhlaaGreat
