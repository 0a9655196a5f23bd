/- Contracts of lariatref3's zeros, number, high, Sums, Close, cover, Leaves. -/
import Derived.Test.YtmingbgohdhajaaGreatBufJ
namespace Go.Proofs.YtmingbgohdhajaaGreat
open Go.RowKit
set_option maxRecDepth 100000

theorem rzeros_any (n : Int) (m : Nat) (hm : max 0 n = (m : Int)) (hb : m ≤ 100000000) (w : World) :
    Calls Tryz.prog 39 #[.int .i64 n] w fun e w' => e = .returned (.slice (some ⟨w.heap.size, 0, none⟩) m m) ∧ w' = w.alloc (.cells (cells (zeros m)).toArray 5) := by
  have hmk := make_bytes m (by omega) w
  go_enter Tryz.func39, Tryz.ntmps39
  go_wp2
  go_ret
  exact ⟨rfl, rfl⟩

theorem rnumber_any (a : Option Addr) (xs : List Nat) (len cap : Nat) (w : World) (h : Has w a xs) (hlen : xs.length = len) (hl : len ≤ 6) :
    Calls Tryz.prog 75 #[.slice a len cap] w fun e w' => e = .returned (.int .i64 (num xs len : Nat)) ∧ w = w' := by
  go_enter Tryz.func75, Tryz.ntmps75
  go_wp2
  go_loop [3, 4] (fun n i => ∃ k : Nat, k ≤ len ∧ i = .int .i64 k ∧ n = .int .i64 (num xs k : Nat)) (fun _ i => len - (intOf i).toNat)
  case atStart => exact ⟨0, by omega, rfl, rfl⟩
  case round =>
    obtain ⟨k, hk, rfl, rfl⟩ := hrel
    by_cases hlt : k < len
    · obtain ⟨b, off, rfl, hc⟩ := h.cell k (by omega)
      have h1 := num_small h.byte (k := k) (by omega)
      have h2 := at0_lt h.byte k
      have h4 : num xs (k + 1) = num xs k * 256 + at0 xs k := rfl
      generalize num xs k = n at *
      generalize at0 xs k = c at *
      have hil : (k : Int) < (len : Int) := by omega
      have hil' : (0 : Int) ≤ (k : Int) := by omega
      go_wp2
      go_round
      case rel => exact ⟨k + 1, by omega, by go_num, by rw [h4]; congr 1; omega⟩
      case measure => simp [intOf]; omega
    · obtain rfl : k = len := by omega
      go_wp2
      go_ret
      exact ⟨rfl, rfl⟩

/-- An answer: a new row of bytes, with its room. -/
def NewRow (xs : List Nat) (w : World) (e : Ending) (w' : World) : Prop := ∃ g c, e = .returned (.slice (some ⟨g, 0, none⟩) xs.length c) ∧ xs.length ≤ c ∧ w.heap.size ≤ g ∧ Grows w' g c xs ∧ Old w w'
theorem Grows.room {w : World} {g c : Nat} {xs : List Nat} (h : Grows w g c xs) : xs.length ≤ c := by
  obtain ⟨rest, _, hl⟩ := h.row
  omega

set_option maxHeartbeats 1600000 in
theorem rhigh_any (n s : Nat) (hs : s ≤ 6) (h0 : 0 < s) (_hn : n ≤ 281474976710656) (w : World) :
    Calls Tryz.prog 73 #[.int .i64 (n : Int), .int .i64 (s : Int)] w (NewRow (high n s) w) := by
  have H0 : Hid (Put w w.heap.size (.slice none 0 0) ((high n s).take (s - s)) (.slice none 0 0) w) := by rw [Nat.sub_self, List.take_zero]; exact Put.refl (Mine.nil _ _)
  go_enter Tryz.func73, Tryz.ntmps73
  go_wp2_with fail
  go_loopw [1, 5] (fun i a wx => ∃ m : Nat, m ≤ s ∧ i = .int .i64 (m : Int) ∧ Hid (Put w w.heap.size (.slice none 0 0) ((high n s).take (s - m)) a wx)) (fun i _ _ => (intOf i).toNat)
  case atStart => exact ⟨s, Nat.le_refl _, rfl, H0⟩
  case round =>
    obtain ⟨m, hm, rfl, HP⟩ := hrel
    clear H0
    match m, hm with
    | 0, _ =>
      have hP := HP.out
      rw [Nat.sub_zero, List.take_of_length_le (by rw [high_length]; exact Nat.le_refl _)] at hP
      rcases hP.fresh with ⟨_, h1⟩ | ⟨g, c, rfl, hg, G⟩
      · have := high_length n s
        rw [h1] at this
        simp at this
        omega
      · have HG := Lib.hid G
        have HO := Lib.hid hP.of_nil
        clear HP hP G
        rw [high_length, show ((0 : Nat) : Int) = 0 from rfl]
        go_wp2_with fail
        go_ret
        exact ⟨g, c, by rw [high_length]; rfl, HG.out.room, hg, HG.out, HO.out⟩
    | j + 1, hm =>
      obtain ⟨v', w', hap, P⟩ := mine_more wr w.heap.size u5 _ (n / 256 ^ j % 256) HP.out.mine (HP.out.size (Nat.le_refl _)) (Nat.mod_lt _ (by decide)) (by rw [List.length_take, high_length]; omega)
      have hst := high_step n s (s - (j + 1)) (by omega)
      rw [show s - 1 - (s - (j + 1)) = j by omega, show s - (j + 1) + 1 = s - j by omega] at hst
      rw [← hst] at P
      have HP' := Lib.hid (HP.out.trans P)
      clear P hst HP
      have hj : j = 0 ∨ j = 1 ∨ j = 2 ∨ j = 3 ∨ j = 4 ∨ j = 5 := by omega
      rcases hj with rfl | rfl | rfl | rfl | rfl | rfl
      all_goals
        simp only [Nat.pow_zero, Nat.div_one, Nat.reducePow, Int.natCast_emod, Int.natCast_ediv, Int.cast_ofNat_Int] at hap
        go_wp2_with (first | (at_builtin; refine wpList_append_run rfl _ _ 61 61 rfl _ _ rfl rfl _ _ (hap _) ?_))
        exact ⟨⟨_, by omega, by rfl, HP'⟩, by simp [intOf]⟩

theorem num_padded (xs : List Nat) (k n : Nat) (h : 4 * k < xs.length) (_hn : n = 4 * k + 4 - xs.length) : num (chunk xs k ++ zeros n) 4 = word xs k := by
  have hl := chunk_length xs k
  have e : ∀ i, i < 4 → at0 (chunk xs k ++ zeros n) i = at0 xs (4 * k + i) := fun i hi => by
    rcases Nat.lt_or_ge i (chunk xs k).length with h1 | h1
    · rw [← at0_chunk xs k i hi]
      unfold at0
      rw [List.getD_eq_getElem?_getD, List.getD_eq_getElem?_getD, List.getElem?_append_left h1]
    · rw [at0_beyond (xs := xs) (by omega)]
      unfold zeros at0
      rw [List.getD_eq_getElem?_getD, List.getElem?_append_right h1, List.getElem?_replicate]
      split <;> rfl
  simp only [num]
  rw [e 0 (by omega), e 1 (by omega), e 2 (by omega), e 3 (by omega)]
  unfold word
  rw [Nat.add_zero]
  omega

set_option maxHeartbeats 1600000 in
theorem rsums_any (a : Option Addr) (xs : List Nat) (len cap : Nat) (w : World) (h : Has w a xs) (hlen : xs.length = len) (hcap : len ≤ cap) (hmax : len ≤ 1048576) :
    Calls Tryz.prog 85 #[.slice a len cap] w fun e w' => e = .returned (.tuple #[.int .i64 (sum1 xs : Nat), .int .i64 (sum2 xs : Nat)]) ∧ Old w w' := by
  have HH := Lib.hid h
  clear h
  generalize hS1 : sum1 xs = S1
  generalize hS2 : sum2 xs = S2
  have HS1 := Lib.hid hS1
  have HS2 := Lib.hid hS2
  have T0 : Hid (Old w w) := Touch.refl _ _
  clear hS1 hS2
  go_enter Tryz.func85, Tryz.ntmps85
  go_wp2_with fail
  go_loopw [4, 5, 6, 7] (fun p q j i wx => ∃ k : Nat, k ≤ wordsOf len ∧ i = .int .i64 ((4 * k : Nat) : Int) ∧ j = .int .i64 k ∧ p = .int .i64 ((sumA xs k % 281474976710656 : Nat) : Int) ∧ q = .int .i64 ((sumB xs k % 281474976710656 : Nat) : Int) ∧ Hid (Old w wx)) (fun _ _ _ i _ => len + 4 - (intOf i).toNat)
  case atStart => exact ⟨0, by omega, rfl, rfl, rfl, rfl, T0⟩
  case round =>
    obtain ⟨k, hk, rfl, rfl, rfl, rfl, T⟩ := hrel
    unfold wordsOf at hk
    clear T0
    by_cases hlt : 4 * k < len
    · obtain ⟨b, off, rfl, hc⟩ := HH.out.cell (4 * k) (by omega)
      clear hc
      have HP : Has wr (some ⟨b, off + 4 * k, none⟩) (chunk xs k) := (HH.out.old T.out).part (4 * k) 4
      obtain ⟨n, hn⟩ : ∃ n : Nat, min 4 (len - 4 * k) = n := ⟨_, rfl⟩
      obtain ⟨z, hz⟩ : ∃ z : Nat, 4 * k + 4 - len = z := ⟨_, rfl⟩
      have hCl : (chunk xs k).length = n := by rw [chunk_length, hlen]; exact hn
      obtain ⟨g1, c1, w1, h1, hg1, G1, T1⟩ := append_new wr _ (chunk xs k) n (cap - 4 * k) HP hCl (by omega)
      have Tz : Old w1 (w1.alloc (.cells (cells (zeros z)).toArray 5)) := (Touch.refl _ w1).alloc _
      obtain ⟨g2, c2, w2, h2, hg2, G2, T2⟩ := append_onto _ g1 c1 n (chunk xs k) (zeros z) _ z z (G1.old Tz) (Own.new w1 (zeros z) (zeros_byte z)).has hCl (zeros_length z) (by omega)
      have T2' : Hid (Old w w2) := ((T.out.trans T1).trans Tz).own T2 (Nat.le_trans T.out.size hg1)
      have HG2 := Lib.hid G2.own.has
      have HL2 := Lib.hid (show (chunk xs k ++ zeros z).length = 4 by rw [List.length_append, hCl, zeros_length]; omega)
      have HN := Lib.hid (num_padded xs k z (by omega) (by omega))
      have hnz : n + z = 4 := by omega
      rw [hnz] at h2
      have hW := word_lt HH.out.byte k
      have HA : Hid (sumA xs (k + 1) = sumA xs k + word xs k) := rfl
      have HB : Hid (sumB xs (k + 1) = sumB xs k + (k + 1) * word xs k) := rfl
      clear HP G1 T1 Tz G2 T2 hg1 hg2 T hCl
      generalize sumA xs k = A at *
      generalize sumB xs k = B at *
      generalize word xs k = W at *
      have hsl : (min (len : Int) (4 * (k : Int) + 4)).toNat - 4 * k = n := by omega
      have hmx : max 0 (4 * (k : Int) + 4 - (len : Int)) = (z : Int) := by omega
      obtain ⟨P, hP⟩ : ∃ P : Nat, W * (k + 1) = P := ⟨_, rfl⟩
      have hPb : P ≤ 1125899906842624 := by
        have : W * (k + 1) ≤ 4294967296 * 262144 := Nat.mul_le_mul (by omega) (by omega)
        omega
      have hPi : (W : Int) * ((k : Int) + 1) = (P : Int) := by rw [← hP]; simp
      go_wp2_with (first | (at_builtin; rw [hsl]; with_reducible refine wpList_append_run (o := ⟨some 24, _, _, _, _, _⟩) rfl (.tmp 15) (.tmp 23) 61 61 rfl _ _ rfl rfl _ _ (h1 _) ?_))
      refine (rzeros_any _ z hmx (by omega) w1).mono ?_
      rintro e w' ⟨rfl, rfl⟩
      go_wp2_with (first | (at_builtin; with_reducible refine wpList_append_run (o := ⟨some 31, _, _, _, _, _⟩) rfl (.tmp 24) (.tmp 30) 61 61 rfl _ _ rfl rfl _ _ (h2 _) ?_))
      refine (rnumber_any _ _ 4 _ w2 HG2.out HL2.out (by omega)).mono ?_
      rintro e w' ⟨rfl, rfl⟩
      rw [HN.out]
      go_wp2_with fail
      refine (rnumber_any _ _ 4 _ w2 HG2.out HL2.out (by omega)).mono ?_
      rintro e w' ⟨rfl, rfl⟩
      rw [HN.out]
      clear HN HG2 HL2 h1 h2 HH
      go_wp2_with fail
      go_roundw
      case rel =>
        refine ⟨k + 1, by unfold wordsOf; omega, by go_num, by go_num, ?_, ?_, T2'⟩
        · rw [HA.out]
          congr 1 <;> omega
        · rw [HB.out, Nat.mul_comm (k + 1) W, hP]
          congr 1 <;> omega
      case measure => simp [intOf]; omega
    · have hk4 : k = wordsOf xs.length := by unfold wordsOf; omega
      have e1 : sum1 xs = sumA xs k % 281474976710656 := by unfold sum1; rw [← hk4]
      have e2 : sum2 xs = sumB xs k % 281474976710656 := by unfold sum2; rw [← hk4]
      rw [HS1.out] at e1
      rw [HS2.out] at e2
      rw [← e1, ← e2]
      clear hk4 HH e1 e2 HS1 HS2
      have hn : ¬ ((4 * k : Nat) : Int) < (len : Int) := by omega
      go_wp2_with fail
      go_ret2
      exact ⟨rfl, T.out⟩

theorem rclose_long (a : Option Addr) (len cap : Nat) (w : World) (h : 84 < len) :
    Calls Tryz.prog 74 #[.slice a len cap] w fun e w' => e = .returned (.tuple #[.slice none 0 0, .bool false]) ∧ w = w' := by
  go_enter Tryz.func74, Tryz.ntmps74
  go_wp2
  go_ret2
  exact ⟨rfl, rfl⟩

set_option maxHeartbeats 1600000 in
theorem rclose_any (a : Option Addr) (xs : List Nat) (len cap : Nat) (w : World) (h : Has w a xs) (hlen : xs.length = len) (hl : len ≤ 84) :
    Calls Tryz.prog 74 #[.slice a len cap] w fun e w' => ∃ g c, e = .returned (.tuple #[.slice (some ⟨g, 0, none⟩) 96 c, .bool true]) ∧ 96 ≤ c ∧ w.heap.size ≤ g ∧ Grows w' g c (track xs) ∧ Old w w' := by
  obtain ⟨z, hz⟩ : ∃ z : Nat, 84 - len = z := ⟨_, rfl⟩
  obtain ⟨g1, c1, w1, h1, hg1, G1, T1⟩ := append_new w _ xs len cap h hlen (by omega)
  have Tz : Old w1 (w1.alloc (.cells (cells (zeros z)).toArray 5)) := (Touch.refl _ w1).alloc _
  obtain ⟨g2, c2, w2, h2, hg2, G2, T2⟩ := append_onto _ g1 c1 len xs (zeros z) _ z z (G1.old Tz) (Own.new w1 (zeros z) (zeros_byte z)).has hlen (zeros_length z) (by omega)
  have T2' : Hid (Old w w2) := (T1.trans Tz).own T2 hg1
  have hg2' : w.heap.size ≤ g2 := by have := T1.size; have := Tz.size; rcases hg2 with h | h <;> omega
  have hnz : len + z = 84 := by omega
  rw [hnz] at h2
  have hB : xs ++ zeros z = body xs := by unfold body; rw [hlen, hz]
  rw [hB] at G2
  have HG2 := Lib.hid G2
  have HBl := Lib.hid (body_length (xs := xs) (by omega))
  have hb1 := sum1_lt (body xs)
  have hb2 := sum2_lt (body xs)
  have hc2 : 84 ≤ c2 := by have := G2.room; rw [HBl.out] at this; omega
  have hmx : max 0 (84 - (len : Int)) = (z : Int) := by omega
  unfold track
  clear h G1 T1 Tz G2 T2 hg1 hg2 hB
  generalize body xs = B at *
  generalize hS1 : sum1 B = S1 at *
  generalize hS2 : sum2 B = S2 at *
  have HS1 := Lib.hid hS1
  have HS2 := Lib.hid hS2
  clear hS1 hS2
  go_enter Tryz.func74, Tryz.ntmps74
  go_wp2_with (first | (at_builtin; with_reducible refine wpList_append_run (o := ⟨some 12, _, _, _, _, _⟩) rfl (.tmp 10) (.tmp 11) 61 61 rfl _ _ rfl rfl _ _ (h1 _) ?_))
  refine (rzeros_any _ z hmx (by omega) w1).mono ?_
  rintro e w' ⟨rfl, rfl⟩
  go_wp2_with (first | (at_builtin; with_reducible refine wpList_append_run (o := ⟨some 17, _, _, _, _, _⟩) rfl (.tmp 12) (.tmp 16) 61 61 rfl _ _ rfl rfl _ _ (h2 _) ?_))
  clear h1 h2
  refine (rsums_any _ B 84 c2 w2 HG2.out.own.has HBl.out hc2 (by omega)).mono ?_
  rintro e w3 ⟨rfl, T3'⟩
  have HG3 := Lib.hid (HG2.out.old T3')
  have T3 := Lib.hid (T2'.out.trans T3')
  clear HG2 T2' T3'
  rw [HS1.out, HS2.out]
  clear HS1 HS2
  go_wp2_with fail
  refine (rhigh_any S1 6 (by omega) (by omega) (by omega) w3).mono ?_
  rintro e w4 ⟨g4, c4, rfl, _, hg4, G4, T4'⟩
  rw [high_length]
  obtain ⟨g5, c5, w5, h5, hg5, G5, T5'⟩ := append_onto w4 g2 c2 84 B (digits S1) _ 6 c4 (HG3.out.old T4') G4.own.has HBl.out rfl (by omega)
  have T5 : Hid (Old w w5) := (T3.out.trans T4').own T5' hg2'
  have hg5' : w.heap.size ≤ g5 := by have := (T3.out.trans T4').size; rcases hg5 with h | h <;> omega
  have HG5 := Lib.hid G5
  clear G4 T4' G5 T5' HG3 T3 hg5 hg4
  go_wp2_with (first | (at_builtin; with_reducible refine wpList_append_run (o := ⟨some 26, _, _, _, _, _⟩) rfl (.tmp 23) (.tmp 25) 61 61 rfl _ _ rfl rfl _ _ (h5 _) ?_))
  refine (rhigh_any S2 6 (by omega) (by omega) (by omega) w5).mono ?_
  rintro e w6 ⟨g6, c6, rfl, _, hg6, G6, T6'⟩
  rw [high_length]
  obtain ⟨g7, c7, w7, h7, hg7, G7, T7'⟩ := append_onto w6 g5 c5 90 (B ++ digits S1) (digits S2) _ 6 c6 (HG5.out.old T6') G6.own.has (by rw [List.length_append, HBl.out]; rfl) rfl (by omega)
  have T7 : Hid (Old w w7) := (T5.out.trans T6').own T7' hg5'
  have hg7' : w.heap.size ≤ g7 := by have := (T5.out.trans T6').size; rcases hg7 with h | h <;> omega
  have hc7 : 96 ≤ c7 := by
    have hl := G7.room
    rw [List.length_append, List.length_append, HBl.out, show (digits S1).length = 6 from rfl, show (digits S2).length = 6 from rfl] at hl
    omega
  have HO7 : Hid (Grows w7 g7 c7 (B ++ (digits S1 ++ digits S2))) := by have := G7; rwa [List.append_assoc] at this
  clear G6 T6' G7 T7' HG5 T5 hg7 hg6 h5
  go_wp2_with (first | (at_builtin; with_reducible refine wpList_append_run (o := ⟨some 29, _, _, _, _, _⟩) rfl (.tmp 26) (.tmp 28) 61 61 rfl _ _ rfl rfl _ _ (h7 _) ?_))
  go_ret2
  exact ⟨g7, c7, rfl, hc7, hg7', HO7.out, T7.out⟩

theorem Grows.has {w : World} {g c : Nat} {xs : List Nat} (h : Grows w g c xs) : Has w (some ⟨g, 0, none⟩) xs := h.own.has

set_option maxHeartbeats 1600000 in
theorem rcover_any (r l : Nat) (w : World) (hr : r ≤ 140737488355328) (hl : l ≤ 140737488355328) :
    Calls Tryz.prog 43 #[.int .i64 r, .int .i64 l] w (NewRow (cover r l) w) := by
  go_enter Tryz.func43, Tryz.ntmps43
  go_wp2_with fail
  refine (rhigh_any r 4 (by omega) (by omega) (by omega) w).mono ?_
  rintro e w1 ⟨g1, c1, rfl, _, hg1, G1, T1⟩
  rw [high_length]
  have HG1 := Lib.hid G1
  have HT1 := Lib.hid T1
  clear G1 T1
  go_wp2_with fail
  refine (rhigh_any l 2 (by omega) (by omega) (by omega) w1).mono ?_
  rintro e w2 ⟨g2, c2, rfl, _, hg2, G2, T2⟩
  rw [high_length]
  obtain ⟨g3, c3, w3, h3, hg3, G3, T3'⟩ := append_onto w2 g1 c1 4 _ _ _ 2 c2 (HG1.out.old T2) G2.has (high_length r 4) (high_length l 2) (by omega)
  have T3 : Hid (Old w w3) := (HT1.out.trans T2).own T3' hg1
  have hg3' : w.heap.size ≤ g3 := by have := (HT1.out.trans T2).size; rcases hg3 with h | h <;> omega
  have Tz : Old w3 (w3.alloc (.cells (cells (zeros 74)).toArray 5)) := (Touch.refl _ w3).alloc _
  obtain ⟨g4, c4, w4, h4, hg4, G4, T4'⟩ := append_onto _ g3 c3 6 _ (zeros 74) _ 74 74 (G3.old Tz) (Own.new w3 (zeros 74) (zeros_byte 74)).has (by simp [high_length]) (zeros_length 74) (by omega)
  have T4 : Hid (Old w w4) := (T3.out.trans Tz).own T4' hg3'
  have hg4' : w.heap.size ≤ g4 := by have := T3.out.size; have := Tz.size; rcases hg4 with h | h <;> omega
  have HG4 := Lib.hid G4
  clear G2 T2 G3 T3' Tz G4 T4' HG1 HT1 hg2 hg3 hg4 T3
  go_wp2_with (first | (at_builtin; with_reducible refine wpList_append_run (o := ⟨some 12, _, _, _, _, _⟩) rfl (.tmp 9) (.tmp 11) 61 61 rfl _ _ rfl rfl _ _ (h3 _) ?_))
  refine (rzeros_any 74 74 (by decide) (by omega) w3).mono ?_
  rintro e w' ⟨rfl, rfl⟩
  go_wp2_with (first | (at_builtin; with_reducible refine wpList_append_run (o := ⟨some 15, _, _, _, _, _⟩) rfl (.tmp 13) (.tmp 14) 61 61 rfl _ _ rfl rfl _ _ (h4 _) ?_))
  clear h3 h4
  refine (rhigh_any r 4 (by omega) (by omega) (by omega) w4).mono ?_
  rintro e w5 ⟨g5, c5, rfl, _, hg5, G5, T5⟩
  rw [high_length]
  obtain ⟨g6, c6, w6, h6, hg6, G6, T6'⟩ := append_onto w5 g4 c4 80 _ _ _ 4 c5 (HG4.out.old T5) G5.has (by simp [high_length, zeros_length]) (high_length r 4) (by omega)
  have T6 : Hid (Old w w6) := (T4.out.trans T5).own T6' hg4'
  have hT : high r 4 ++ high l 2 ++ zeros 74 ++ high r 4 = coverText r l := by simp [coverText]
  rw [hT] at G6
  have HG6 := Lib.hid G6
  clear G5 T5 G6 T6' HG4 T4 hg5 hg6 hT
  go_wp2_with (first | (at_builtin; with_reducible refine wpList_append_run (o := ⟨some 20, _, _, _, _, _⟩) rfl (.tmp 17) (.tmp 19) 61 61 rfl _ _ rfl rfl _ _ (h6 _) ?_))
  refine (rclose_any _ (coverText r l) 84 _ w6 HG6.out.has (coverText_length r l) (by omega)).mono ?_
  rintro e w7 ⟨g7, c7, rfl, hc7, hg7, G7, T7⟩
  have HG7 := Lib.hid G7
  have HT7 := Lib.hid (T6.out.trans T7)
  have Hg := Lib.hid (Nat.le_trans T6.out.size hg7)
  clear G7 T7 HG6 T6 hg7 h6
  go_wp2_with fail
  go_ret
  refine ⟨g7, c7, ?_, HG7.out.room, Hg.out, HG7.out, HT7.out⟩
  rw [cover, track_length (by rw [coverText_length]; omega)]
  rfl

theorem rleaves_any (n : Nat) (w : World) (hn : n ≤ 1000000) : Calls Tryz.prog 65 #[.int .i64 n] w fun e w' => e = .returned (.int .i64 (leavesOf n : Nat)) ∧ w = w' := by
  have hL : ∀ k : Nat, (0 < n ∧ k * 64 < 2 + n * 98) ↔ k < leavesOf n := fun k => by
    unfold leavesOf
    split <;> omega
  have hB : leavesOf n ≤ 2000000 := by unfold leavesOf; split <;> omega
  generalize leavesOf n = L at *
  go_enter Tryz.func65, Tryz.ntmps65
  go_wp2_with fail
  go_loop [3] (fun i => ∃ k : Nat, k ≤ L ∧ i = .int .i64 k) (fun i => L - (intOf i).toNat)
  case atStart => exact ⟨0, by omega, rfl⟩
  case round =>
    obtain ⟨k, hk, rfl⟩ := hrel
    have := hL k
    by_cases hlt : k < L
    · have h1 := this.2 hlt
      have h2 : (0 : Int) < (n : Int) := by omega
      have h3 : (k : Int) * 64 < 2 + (n : Int) * 98 := by omega
      clear this h1 hL
      go_wp2_with fail
      go_round
      case rel => exact ⟨k + 1, by omega, by go_num⟩
      case measure => simp [intOf]; omega
    · obtain rfl : k = L := by omega
      have h1 : ¬ (0 < n ∧ k * 64 < 2 + n * 98) := fun q => hlt (this.1 q)
      clear this hL
      by_cases h2 : 0 < n
      · have h2' : (0 : Int) < (n : Int) := by omega
        have h3 : ¬ (k : Int) * 64 < 2 + (n : Int) * 98 := by omega
        go_wp2_with fail
        go_ret
        exact ⟨rfl, rfl⟩
      · have h2' : ¬ (0 : Int) < (n : Int) := by omega
        go_wp2_with fail
        go_ret
        exact ⟨rfl, rfl⟩
end Go.Proofs.YtmingbgohdhajaaGreat
