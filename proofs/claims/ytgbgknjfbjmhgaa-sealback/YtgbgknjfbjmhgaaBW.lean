/- The walk of lariatlaw3.SealBack. -/
import Derived.Test.YtgbgknjfbjmhgaaEq
import Derived.Test.YtgbgknjfbjmhgaaKnown
import Derived.Deep.RegionHeld3
import Derived.Deep.DeepCutAuto
import Derived.Deep.RegionWith
namespace Go.Proofs.Ytgbgknjfbjmhgaa
open Go.RowKit

theorem at0_append_right {xs ys : List Nat} {k n : Nat} (h : xs.length = n) : at0 (xs ++ ys) (n + k) = at0 ys k := by
  subst h
  simp [at0, List.getD_eq_getElem?_getD, List.getElem?_append_right]
/-- What lies in memory when both tracks were opened. -/
structure Five (w wx : World) (g2 g4 g5 g6 g7 : Nat) (X Y : List Nat) : Prop where
  t : Old w wx
  x : Has wx (some ⟨g2, 0, none⟩) X
  s : Has wx (some ⟨g4, 0, none⟩) (track X)
  q : Has wx (some ⟨g5, 0, none⟩) (track Y)
  u : Has wx (some ⟨g6, 0, none⟩) (body X)
  v : Has wx (some ⟨g7, 0, none⟩) (body Y)
theorem Five.old {w wx wy : World} {g2 g4 g5 g6 g7 : Nat} {X Y : List Nat} (F : Five w wx g2 g4 g5 g6 g7 X Y) (T : Old wx wy) : Five w wy g2 g4 g5 g6 g7 X Y :=
  ⟨F.t.trans T, F.x.old T, F.s.old T, F.q.old T, F.u.old T, F.v.old T⟩
theorem Five.str1 {w wx : World} {g2 g4 g5 g6 g7 : Nat} {X Y : List Nat} (F : Five w wx g2 g4 g5 g6 g7 X Y) {n : Nat} (c : Nat) (h : X.length = n) :
    (convert 25 9 (.slice (some ⟨g2, 0, none⟩) n c)).run Try.prog wx = .ok (.string (strOf X)) wx := str_any wx _ X n c F.x h
theorem Five.str2 {w wx : World} {g2 g4 g5 g6 g7 : Nat} {X Y : List Nat} (F : Five w wx g2 g4 g5 g6 g7 X Y) {n : Nat} (h : X.length = n) :
    (convert 25 9 (.slice (some ⟨g6, 0, none⟩) n 84)).run Try.prog wx = .ok (.string (strOf X)) wx := by
  have htake : (body X).take n = X := by unfold body; rw [← h, List.take_left]
  have := str_any wx _ _ n 84 (F.u.take n) (by rw [htake]; exact h)
  rwa [htake] at this

set_option maxRecDepth 100000 in
set_option maxHeartbeats 1600000 in
theorem back_law (a b : Option Addr) (xs ys : List Nat) (la ca lb cb : Nat) (w : World) (ha : Has w a xs) (hb : Has w b ys) (hla : xs.length = la) (hlb : ys.length = lb) (hca : la ≤ ca) (hcb : lb ≤ cb) :
    Calls Try.prog 6 #[.slice a la ca, .slice b lb cb] w fun e w' => e = .returned (.bool true) ∧ Below w.heap.size w w' := by
  have hn := notAt
  have HA := Lib.hid ha
  have HB := Lib.hid hb
  clear ha hb
  go_enter Try.func6, Try.ntmps6
  go_wp2_with fail
  refine (known_any _).mono ?_
  rintro e w1 ⟨rfl, T1'⟩
  have T1 := Lib.hid T1'
  clear T1'
  go_wp2_with fail
  refine (few_any _ xs la ca 84 w1 (HA.out.old T1.out) hla hca (by omega)).mono ?_
  rintro e w2 ⟨g2, c2, rfl, hc2, hg2, O2, T2'⟩
  have T2 := Lib.hid (T1.out.trans T2')
  have HO2 := Lib.hid O2
  obtain ⟨n, hn2⟩ : ∃ n : Nat, min la 84 = n := ⟨_, rfl⟩
  have hn84 : n ≤ 84 := by omega
  rw [hn2] at hc2 ⊢
  have HXl := Lib.hid (show (xs.take 84).length = n by rw [List.length_take]; omega)
  clear O2 T2' T1 HA hn2 hg2
  generalize xs.take 84 = X at *
  go_wp2_with fail
  refine (few_any _ ys lb cb 84 w2 (HB.out.old T2.out) hlb hcb (by omega)).mono ?_
  rintro e w3 ⟨g3, c3, rfl, hc3, hg3, O3, T3'⟩
  have T3 := Lib.hid (T2.out.trans T3')
  have HO2' := Lib.hid (HO2.out.old T3')
  have HO3 := Lib.hid O3
  have HYb := Lib.hid O3.byte
  obtain ⟨k, hk2⟩ : ∃ k : Nat, min lb 84 = k := ⟨_, rfl⟩
  have hk84 : k ≤ 84 := by omega
  rw [hk2] at hc3 ⊢
  have HYl := Lib.hid (show (ys.take 84).length = k by rw [List.length_take]; omega)
  clear O3 T3' T2 HB hk2 HO2 hg3
  generalize ys.take 84 = Y at *
  go_wp2_with fail
  refine (close_any _ X n c2 w3 HO2'.out.has HXl.out hn84).mono ?_
  rintro e w4 ⟨rfl, O4, T4'⟩
  have T4 := Lib.hid (T3.out.trans T4')
  have HX4 := Lib.hid (HO2'.out.old T4').has
  have HY4 := Lib.hid (HO3.out.old T4').has
  have HS4 := Lib.hid O4
  clear O4 T4' T3 HO2' HO3
  generalize w3.heap.size = g4 at *
  go_wp2_with fail
  refine (close_any _ Y k c3 w4 HY4.out HYl.out hk84).mono ?_
  rintro e w5 ⟨rfl, O5, T5'⟩
  have T5 := Lib.hid (T4.out.trans T5')
  have HX5 := Lib.hid (HX4.out.old T5')
  have HS5 := Lib.hid (HS4.out.old T5').has
  have HT5 := Lib.hid O5.has
  clear O5 T5' T4 HX4 HY4 HS4
  generalize w4.heap.size = g5 at *
  go_wp2_with fail
  refine (open_right _ (track X) 96 w5 HS5.out (track_length (by rw [HXl.out]; exact hn84)) (by omega) (right_track (by rw [HXl.out]; exact hn84))).mono ?_
  rintro e w6 ⟨rfl, O6, T6'⟩
  rw [track_take (by rw [HXl.out]; exact hn84)] at O6
  have T6 := Lib.hid (T5.out.trans T6')
  have HX6 := Lib.hid (HX5.out.old T6')
  have HS6 := Lib.hid (HS5.out.old T6')
  have HT6 := Lib.hid (HT5.out.old T6')
  have HU6 := Lib.hid O6.has
  clear O6 T6' T5 HX5 HS5 HT5
  generalize w5.heap.size = g6 at *
  go_wp2_with fail
  refine (open_right _ (track Y) 96 w6 HT6.out (track_length (by rw [HYl.out]; exact hk84)) (by omega) (right_track (by rw [HYl.out]; exact hk84))).mono ?_
  rintro e w7 ⟨rfl, O7, T7'⟩
  rw [track_take (by rw [HYl.out]; exact hk84)] at O7
  have F7 : Hid (Five w w7 g2 g4 g5 g6 w6.heap.size X Y) := ⟨T6.out.trans T7', HX6.out.old T7', HS6.out.old T7', HT6.out.old T7', HU6.out.old T7', O7.has⟩
  clear O7 T7' T6 HX6 HS6 HT6 HU6
  generalize w6.heap.size = g7 at *
  have F7d := Lib.hid (F7.out.old (Touch.refl _ _).drew)
  have hs1 := F7d.out.str1 c2 HXl.out
  have hs2 := F7d.out.str2 HXl.out
  have hi0 : (0 : Int) ≤ (n : Int) := by omega
  have hi1 : (n : Int) ≤ 84 := by omega
  have hi2 : (n : Int) ≤ (84 : Nat) := by omega
  go_wp2_with fail
  go_cut [82] (fun c wx => c = .bool false ∧ Hid (Five w wx g2 g4 g5 g6 g7 X Y))
  case first =>
    go_region_held3 (fun w' => (convert 25 9 (.slice (some ⟨g2, 0, none⟩) n c2)).run Try.prog w' = .ok (.string (strOf X)) w' ∧ (convert 25 9 (.slice (some ⟨g6, 0, none⟩) n 84)).run Try.prog w' = .ok (.string (strOf X)) w') (first | exact ⟨hs1, hs2⟩ | exact ⟨hs3, hs4⟩)
      (first | (go_at_call 8; refine (known_any _).mono ?_; rintro e w8 ⟨rfl, T8⟩; have F8 := Lib.hid (F7d.out.old T8); have hs3 := F8.out.str1 c2 HXl.out; have hs4 := F8.out.str2 HXl.out; clear T8))
    all_goals (go_wp2_with fail; go_meet; exact ⟨rfl, F8⟩)
  case rest =>
  obtain ⟨rfl, F9⟩ := hcut
  clear hs1 hs2 F7 F7d
  go_wp2_with fail
  have s1 := Lib.hid (str_any _ _ _ 96 96 F9.out.s (track_length (by rw [HXl.out]; exact hn84)))
  have s2 := Lib.hid (str_any _ _ _ 96 96 F9.out.q (track_length (by rw [HYl.out]; exact hk84)))
  have s3 := Lib.hid (str_any _ _ _ 84 84 F9.out.u (body_length (by rw [HXl.out]; exact hn84)))
  have s4 := Lib.hid (str_any _ _ _ 84 84 F9.out.v (body_length (by rw [HYl.out]; exact hk84)))
  go_loop [13] (fun i => ∃ j : Nat, n ≤ j ∧ j ≤ 84 ∧ i = .int .i64 j) (fun i => 84 - (intOf i).toNat)
  case atStart => exact ⟨n, Nat.le_refl _, hn84, rfl⟩
  case round =>
    obtain ⟨j, hj1, hj2, rfl⟩ := hrel
    by_cases hlt : j < 84
    · obtain ⟨b', off', e, hc⟩ := F9.out.u.cell j (by rw [body_length (by rw [HXl.out]; exact hn84)]; exact hlt)
      cases e
      have hz : at0 (body X) j = 0 := by
        unfold body
        rw [show j = X.length + (j - X.length) by rw [HXl.out]; omega, at0_append_right rfl]
        unfold zeros at0
        simp [List.getD_eq_getElem?_getD, List.getElem?_replicate]
        split <;> rfl
      rw [hz, Nat.zero_add] at hc
      change _ = some (Value.int .u8 0) at hc
      have hj3 : (j : Int) < 84 := by omega
      have hj4 : (0 : Int) ≤ (j : Int) := by omega
      clear hz
      go_wp2_with fail
      go_round
      case rel => exact ⟨j + 1, by omega, by omega, by go_num⟩
      case measure => simp [intOf]; omega
    · obtain rfl : j = 84 := by omega
      have hs1 := s1.out
      have hs2 := s2.out
      have hs3 := s3.out
      have hs4 := s4.out
      go_wp2_with fail
      rw [track_beq F9.out.x.byte HYb.out (by rw [HXl.out]; exact hn84) (by rw [HYl.out]; exact hk84)]
      go_ret
      exact ⟨rfl, F9.out.t.below (Nat.le_refl _) (fun _ _ h => h)⟩
end Go.Proofs.Ytgbgknjfbjmhgaa
