/- The contract of lariatref3.Sums, of not too many bytes. -/
import Derived.Test.YtgbgknjfbjmhgaaRef
namespace Go.Proofs.Ytgbgknjfbjmhgaa
open Go.RowKit

theorem num_padded (xs : List Nat) (k n : Nat) (h : 4 * k < xs.length) (_hn : n = 4 * k + 4 - xs.length) : num (chunk xs k ++ zeros n) 4 = word xs k := by
  have hl := chunk_length xs k
  have e : ∀ i, i < 4 → at0 (chunk xs k ++ zeros n) i = at0 xs (4 * k + i) := fun i hi => by
    rcases Nat.lt_or_ge i (chunk xs k).length with h1 | h1
    · rw [at0_append_left h1, at0_chunk xs k i hi]
    · rw [show i = (chunk xs k).length + (i - (chunk xs k).length) by omega, at0_append_right rfl]
      rw [at0_beyond (xs := xs) (by omega)]
      unfold zeros at0
      simp [List.getD_eq_getElem?_getD, List.getElem?_replicate]
      split <;> rfl
  simp only [num]
  rw [e 0 (by omega), e 1 (by omega), e 2 (by omega), e 3 (by omega)]
  unfold word
  rw [Nat.add_zero]
  omega

set_option maxRecDepth 100000 in
set_option maxHeartbeats 1600000 in
theorem refsums_any (a : Option Addr) (xs : List Nat) (len cap : Nat) (w : World) (h : Has w a xs) (hlen : xs.length = len) (hcap : len ≤ cap) (hmax : len ≤ 1048576) :
    Calls Try.prog 12 #[.slice a len cap] w fun e w' => e = .returned (.tuple #[.int .i64 (sum1 xs : Nat), .int .i64 (sum2 xs : Nat)]) ∧ Old w w' := by
  have HH := Lib.hid h
  clear h
  generalize hS1 : sum1 xs = S1
  generalize hS2 : sum2 xs = S2
  have HS1 := Lib.hid hS1
  have HS2 := Lib.hid hS2
  have T0 : Hid (Old w w) := Touch.refl _ _
  clear hS1 hS2
  go_enter Try.func12, Try.ntmps12
  go_wp2_with fail
  go_loopw [4, 5, 6, 7] (fun p q j i wx => ∃ k : Nat, k ≤ wordsOf len ∧ i = .int .i64 ((4 * k : Nat) : Int) ∧ j = .int .i64 k ∧ p = .int .i64 ((sumA xs k % 281474976710656 : Nat) : Int) ∧ q = .int .i64 ((sumB xs k % 281474976710656 : Nat) : Int) ∧ Hid (Old w wx)) (fun _ _ _ i _ => len + 4 - (intOf i).toNat)
  case atStart => exact ⟨0, by omega, rfl, rfl, rfl, rfl, T0⟩
  case round =>
    obtain ⟨k, hk, rfl, rfl, rfl, rfl, T⟩ := hrel
    unfold wordsOf at hk
    clear T0
    by_cases hlt : 4 * k < len
    · obtain ⟨b, off, rfl, hc⟩ := HH.out.cell (4 * k) (by omega)
      clear hc
      have HP : Has wr (some ⟨b, off + 4 * k, none⟩) (chunk xs k) := (HH.out.old T.out).part (4 * k) 4
      obtain ⟨n, hn⟩ : ∃ n : Nat, min 4 (len - 4 * k) = n := ⟨_, rfl⟩
      obtain ⟨z, hz⟩ : ∃ z : Nat, 4 * k + 4 - len = z := ⟨_, rfl⟩
      have hCl : (chunk xs k).length = n := by rw [chunk_length, hlen]; exact hn
      obtain ⟨g1, c1, w1, h1, hg1, G1, T1⟩ := append_new wr _ (chunk xs k) n (cap - 4 * k) HP hCl (by omega)
      have Tz : Old w1 (w1.alloc (.cells (cells (zeros z)).toArray 5)) := (Touch.refl _ w1).alloc _
      obtain ⟨g2, c2, w2, h2, hg2, G2, T2⟩ := append_onto _ g1 c1 n (chunk xs k) (zeros z) _ z z (G1.old Tz) (Own.new w1 (zeros z) (zeros_byte z)).has hCl (zeros_length z) (by omega)
      have T2' : Hid (Old w w2) := ((T.out.trans T1).trans Tz).own T2 (Nat.le_trans T.out.size hg1)
      have HG2 := Lib.hid G2.own.has
      have HL2 := Lib.hid (show (chunk xs k ++ zeros z).length = 4 by rw [List.length_append, hCl, zeros_length]; omega)
      have HN := Lib.hid (num_padded xs k z (by omega) (by omega))
      have hnz : n + z = 4 := by omega
      rw [hnz] at h2
      have hW := word_lt HH.out.byte k
      have HA : Hid (sumA xs (k + 1) = sumA xs k + word xs k) := rfl
      have HB : Hid (sumB xs (k + 1) = sumB xs k + (k + 1) * word xs k) := rfl
      clear HP G1 T1 Tz G2 T2 hg1 hg2 T hCl
      generalize sumA xs k = A at *
      generalize sumB xs k = B at *
      generalize word xs k = W at *
      have hsl : (min (len : Int) (4 * (k : Int) + 4)).toNat - 4 * k = n := by omega
      have hmx : max 0 (4 * (k : Int) + 4 - (len : Int)) = (z : Int) := by omega
      obtain ⟨P, hP⟩ : ∃ P : Nat, W * (k + 1) = P := ⟨_, rfl⟩
      have hPb : P ≤ 1125899906842624 := by
        have : W * (k + 1) ≤ 4294967296 * 262144 := Nat.mul_le_mul (by omega) (by omega)
        omega
      have hPi : (W : Int) * ((k : Int) + 1) = (P : Int) := by rw [← hP]; simp
      go_wp2_with (first | (at_builtin; rw [hsl]; with_reducible refine wpList_append_run (o := ⟨some 24, _, _, _, _, _⟩) rfl (.tmp 15) (.tmp 23) 25 25 rfl _ _ rfl rfl _ _ (h1 _) ?_))
      refine (zeros_any _ z hmx (by omega) w1).mono ?_
      rintro e w' ⟨rfl, rfl⟩
      go_wp2_with (first | (at_builtin; with_reducible refine wpList_append_run (o := ⟨some 31, _, _, _, _, _⟩) rfl (.tmp 24) (.tmp 30) 25 25 rfl _ _ rfl rfl _ _ (h2 _) ?_))
      refine (refnumber_any _ _ 4 _ w2 HG2.out HL2.out (by omega)).mono ?_
      rintro e w' ⟨rfl, rfl⟩
      rw [HN.out]
      go_wp2_with fail
      refine (refnumber_any _ _ 4 _ w2 HG2.out HL2.out (by omega)).mono ?_
      rintro e w' ⟨rfl, rfl⟩
      rw [HN.out]
      clear HN HG2 HL2 h1 h2 HH
      go_wp2_with fail
      go_roundw
      case rel =>
        refine ⟨k + 1, by unfold wordsOf; omega, by go_num, by go_num, ?_, ?_, T2'⟩
        · rw [HA.out]
          congr 1 <;> omega
        · rw [HB.out, Nat.mul_comm (k + 1) W, hP]
          congr 1 <;> omega
      case measure => simp [intOf]; omega
    · have hk4 : k = wordsOf xs.length := by unfold wordsOf; omega
      have e1 : sum1 xs = sumA xs k % 281474976710656 := by unfold sum1; rw [← hk4]
      have e2 : sum2 xs = sumB xs k % 281474976710656 := by unfold sum2; rw [← hk4]
      rw [HS1.out] at e1
      rw [HS2.out] at e2
      rw [← e1, ← e2]
      clear hk4 HH e1 e2 HS1 HS2
      have hn : ¬ ((4 * k : Nat) : Int) < (len : Int) := by omega
      go_wp2_with fail
      go_ret2
      exact ⟨rfl, T.out⟩
end Go.Proofs.Ytgbgknjfbjmhgaa
