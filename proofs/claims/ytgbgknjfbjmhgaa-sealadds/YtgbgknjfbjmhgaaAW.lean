/- The walk of lariatlaw3.SealAdds. -/
import Derived.Test.YtgbgknjfbjmhgaaAdds
import Derived.Test.YtgbgknjfbjmhgaaKnown
namespace Go.Proofs.Ytgbgknjfbjmhgaa
open Go.RowKit

set_option maxRecDepth 100000 in
set_option maxHeartbeats 1600000 in
theorem adds_law (a b : Option Addr) (xs ys : List Nat) (la ca lb cb : Nat) (w : World) (ha : Has w a xs) (hb : Has w b ys) (hla : xs.length = la) (hlb : ys.length = lb) (hca : la ≤ ca) (hcb : lb ≤ cb) :
    Calls Try.prog 7 #[.slice a la ca, .slice b lb cb] w fun e w' => e = .returned (.bool true) ∧ Below w.heap.size w w' := by
  have hn := notAt
  have HA := Lib.hid ha
  have HB := Lib.hid hb
  clear ha hb
  go_enter Try.func7, Try.ntmps7
  go_wp2_with fail
  refine (known_any _).mono ?_
  rintro e w1 ⟨rfl, T1'⟩
  have T1 := Lib.hid T1'
  clear T1'
  go_wp2_with fail
  refine (few_any _ xs la ca 40 w1 (HA.out.old T1.out) hla hca (by omega)).mono ?_
  rintro e w2 ⟨g2, c2, rfl, hc2, hg2, O2, T2'⟩
  have T2 := Lib.hid (T1.out.trans T2')
  have HO2 := Lib.hid O2
  obtain ⟨n, hn2⟩ : ∃ n : Nat, min la 40 = n := ⟨_, rfl⟩
  have hn40 : n ≤ 40 := by omega
  rw [hn2] at hc2 ⊢
  have hlen2 := Lib.hid (show (xs.take 40).length = n by rw [List.length_take]; omega)
  clear O2 T2' T1 HA hn2
  go_wp2_with fail
  refine (few_any _ ys lb cb 40 w2 (HB.out.old T2.out) hlb hcb (by omega)).mono ?_
  rintro e w3 ⟨g3, c3, rfl, hc3, hg3, O3, T3'⟩
  have T3 := Lib.hid (T2.out.trans T3')
  have HO3 := Lib.hid O3
  obtain ⟨k, hk2⟩ : ∃ k : Nat, min lb 40 = k := ⟨_, rfl⟩
  have hk40 : k ≤ 40 := by omega
  rw [hk2] at hc3 ⊢
  obtain ⟨m, hm4⟩ : ∃ m : Nat, n - n % 4 = 4 * m := ⟨n / 4, by omega⟩
  have hm10 : m ≤ 10 := by omega
  have hm4c : 4 * m ≤ c2 := by omega
  rw [hm4]
  obtain ⟨X, hX⟩ : ∃ X, (xs.take 40).take (4 * m) = X := ⟨_, rfl⟩
  obtain ⟨Y, hY⟩ : ∃ Y, ys.take 40 = Y := ⟨_, rfl⟩
  have HX : Hid (Has w3 (some ⟨g2, 0, none⟩) X) := by rw [← hX]; exact (HO2.out.old T3').has.take _
  have HY : Hid (Has w3 (some ⟨g3, 0, none⟩) Y) := by rw [← hY]; exact HO3.out.has
  have hXl : X.length = 4 * m := by rw [← hX, List.length_take, hlen2.out]; omega
  have hYl : Y.length = k := by rw [← hY, List.length_take]; omega
  clear O3 T3' T2 HB hk2 hX hY HO2 HO3 hlen2 hm4
  obtain ⟨e1, e2⟩ := sum_adds HX.out.byte HY.out.byte hXl hm10 (by omega)
  have b1 := (sum1_small HX.out.byte (by omega)).2
  have b2 := (sum2_small HX.out.byte (by omega)).2
  have b3 := (sum1_small HY.out.byte (by omega)).2
  have b4 := (sum2_small HY.out.byte (by omega)).2
  obtain ⟨g4, c4, w4, h4, g5, c5, w5, h5, hc5, hg5, G5, T5'⟩ := append_two w3 _ _ X Y (4 * m) k c2 c3 HX.out HY.out hXl hYl (by omega)
  have HE1 := Lib.hid e1
  have HE2 := Lib.hid e2
  have T5 := Lib.hid (T3.out.trans T5')
  have HG5 := Lib.hid G5.own.has
  have HL5 := Lib.hid (show (X ++ Y).length = 4 * m + k by rw [List.length_append, hXl, hYl])
  have HXl := Lib.hid hXl
  have HYl := Lib.hid hYl
  clear e1 e2 T5' G5 T3 hXl hYl hg5
  go_wp2_with fail
  refine (sums_any _ X (4 * m) c2 w3 HX.out HXl.out hm4c (by omega)).mono ?_
  rintro e w' ⟨rfl, rfl⟩
  go_wp2_with fail
  refine (sums_any _ Y k c3 w3 HY.out HYl.out hc3 (by omega)).mono ?_
  rintro e w' ⟨rfl, rfl⟩
  go_wp2_with (first | (at_builtin; with_reducible refine wpList_append_run (o := ⟨some 38, _, _, _, _, _⟩) rfl (.tmp 36) (.tmp 37) 25 25 rfl _ _ rfl rfl _ _ (h4 _) ?_) | (at_builtin; with_reducible refine wpList_append_run (o := ⟨some 40, _, _, _, _, _⟩) rfl (.tmp 38) (.tmp 39) 25 25 rfl _ _ rfl rfl _ _ (h5 _) ?_))
  refine (sums_any _ (X ++ Y) (4 * m + k) c5 w5 HG5.out HL5.out hc5 (by omega)).mono ?_
  rintro e w' ⟨rfl, rfl⟩
  rw [HE1.out, HE2.out]
  clear HE1 HE2 HG5 HL5 HXl HYl HX HY h4 h5
  generalize sum1 X = S1 at *
  generalize sum2 X = S2 at *
  generalize sum1 Y = R1 at *
  generalize sum2 Y = R2 at *
  obtain ⟨P, hP⟩ : ∃ P : Nat, m * R1 = P := ⟨_, rfl⟩
  have hPb : P < 43980465111040 := by
    have : m * R1 ≤ 10 * R1 := Nat.mul_le_mul_right _ hm10
    omega
  have hPi : (m : Int) * (R1 : Int) = (P : Int) := by rw [← hP]; simp
  rw [hP]
  go_wp2_with fail
  refine (known_any _).mono ?_
  rintro e w6 ⟨rfl, T6'⟩
  have T6 := Lib.hid (T5.out.trans T6')
  clear T6' T5
  go_wp2_with fail
  go_ret
  exact ⟨rfl, T6.out.below (Nat.le_refl _) (fun _ _ h => h)⟩
end Go.Proofs.Ytgbgknjfbjmhgaa
