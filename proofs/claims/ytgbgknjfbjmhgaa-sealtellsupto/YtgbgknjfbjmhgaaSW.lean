/- The walk of lariatlaw3.SealTells. -/
import Derived.Test.YtgbgknjfbjmhgaaRefTrack
import Derived.Test.YtgbgknjfbjmhgaaKnown
import Derived.Laws.BitsAllLaws
namespace Go.Proofs.Ytgbgknjfbjmhgaa
open Go.RowKit

/-- A slice of integers: its cells lie in a block that was there. -/
def IntRow (w : World) (a : Option Addr) (len : Nat) (q : Nat → Int) : Prop :=
  ∀ i, i < len → ∃ b off, a = some ⟨b, off, none⟩ ∧ b < w.heap.size ∧ w.cell? ⟨b, off + i, none⟩ = some (.int .i64 (q i))

theorem xor_byte (x y : Nat) : ∃ v : Nat, bits .xor .u8 (x : Int) (y : Int) = (v : Int) ∧ v < 256 := by
  have h := bits_within .xor .u8 (x : Int) (y : Int)
  have h1 : IntKind.u8.min = 0 := rfl
  have h2 : IntKind.u8.max = 255 := rfl
  rw [h1, h2] at h
  exact ⟨(bits .xor .u8 (x : Int) (y : Int)).toNat, by omega, by omega⟩

set_option maxRecDepth 100000 in
set_option maxHeartbeats 3200000 in
theorem tells_law (a r t : Option Addr) (xs rs : List Nat) (la ca lr cr lt ct : Nat) (near : Bool) (q : Nat → Int) (y : Nat) (w : World) (ha : Has w a xs) (hr : Has w r rs) (ht : IntRow w t lt q)
    (hla : xs.length = la) (hlr : rs.length = lr) (hca : la ≤ ca) (hcr : lr ≤ cr) (hm1 : la ≤ 1048576) (hm2 : lr ≤ 1048576) :
    Calls Try.prog 4 #[.slice a la ca, .slice r lr cr, .bool near, .slice t lt ct, .int .u8 (y : Int)] w fun e w' => e = .returned (.bool true) ∧ Below w.heap.size w w' := by
  have hn := notAt
  have HA := Lib.hid ha
  have HR := Lib.hid hr
  have HT := Lib.hid ht
  clear ha hr ht
  go_enter Try.func4, Try.ntmps4
  go_wp2_with fail
  refine (known_any _).mono ?_
  rintro e w1 ⟨rfl, T1'⟩
  have T1 := Lib.hid T1'
  clear T1'
  go_wp2_with fail
  refine (sums_any _ xs la ca w1 (HA.out.old T1.out) hla hca (by omega)).mono ?_
  rintro e w' ⟨rfl, rfl⟩
  go_wp2_with fail
  refine (refsums_any _ xs la ca w1 (HA.out.old T1.out) hla hca hm1).mono ?_
  rintro e w2 ⟨rfl, T2'⟩
  have T2 := Lib.hid (T1.out.trans T2')
  clear T2' T1
  generalize sum1 xs = S1 at *
  generalize sum2 xs = S2 at *
  go_wp2_with fail
  refine (close_all _ xs la ca w2 (HA.out.old T2.out) hla).mono ?_
  rintro e w3 ⟨a3, n3, c3, rfl, H3', hl3, T3'⟩
  have T3 := Lib.hid (T2.out.trans T3')
  have H3 := Lib.hid H3'
  have HL3 := Lib.hid hl3
  clear T3' T2 H3' hl3
  go_wp2_with fail
  refine (refclose_all _ xs la ca w3 (HA.out.old T3.out) hla).mono ?_
  rintro e w4 ⟨a4, n4, c4, rfl, H4', hl4, T4'⟩
  have T4 := Lib.hid (T3.out.trans T4')
  have hs1 := str_any w4 a3 (closed xs) n3 c3 (H3.out.old T4') HL3.out
  have hs2 := str_any w4 a4 (closed xs) n4 c4 H4' hl4
  clear T4' T3 H4' hl4 H3 HL3
  generalize closes xs = o1 at *
  generalize closed xs = D1 at *
  go_wp2_with fail
  refine (few_any _ rs lr cr lr w4 (HR.out.old T4.out) hlr hcr (by omega)).mono ?_
  rintro e w5 ⟨g5, c5, rfl, hc5, hg5, O5, T5'⟩
  have T5 := Lib.hid (T4.out.trans T5')
  have HO5 := Lib.hid O5.has
  have hlr5 : min lr lr = lr := by omega
  rw [hlr5] at hc5 ⊢
  have HL5 := Lib.hid (show (rs.take lr).length = lr by rw [List.length_take]; omega)
  clear T5' T4 O5 hg5 hs1 hs2 HR hlr5
  generalize rs.take lr = Z5 at *
  cases near with
  | false =>
    go_wp2_with fail
    refine (open_all _ Z5 lr c5 w5 HO5.out HL5.out hc5).mono ?_
    rintro e w6 ⟨a6, n6, c6, rfl, H6', hl6, T6'⟩
    have T6 := Lib.hid (T5.out.trans T6')
    have HZ6 := Lib.hid (HO5.out.old T6')
    have H6 := Lib.hid H6'
    have HL6 := Lib.hid hl6
    clear T6' H6' hl6 HO5 T5
    go_wp2_with fail
    refine (refopen_all _ Z5 lr c5 w6 HZ6.out HL5.out hc5).mono ?_
    rintro e w7 ⟨a7, n7, c7, rfl, H7', hl7, T7'⟩
    have T7 := Lib.hid (T6.out.trans T7')
    have H67 := Lib.hid (H6.out.old T7')
    have H7 := Lib.hid H7'
    have HL7 := Lib.hid hl7
    clear T7' H7' hl7 H6 T6 HZ6 HL5
    generalize opens Z5 = o2 at *
    generalize opened Z5 = D2 at *
    go_wp2_with fail
    refine (known_any _).mono ?_
    rintro e w8 ⟨rfl, T8'⟩
    have T8 := Lib.hid (T7.out.trans T8')
    have hs1 := str_any w8 a6 D2 n6 c6 (H67.out.old T8') HL6.out
    have hs2 := str_any w8 a7 D2 n7 c7 (H7.out.old T8') HL7.out
    clear T8' T7 H67 H7 HL6 HL7
    go_wp2_with fail
    go_ret
    exact ⟨rfl, T8.out.below (Nat.le_refl _) (fun _ _ h => h)⟩
  | true =>
    go_wp2_with fail
    refine (few_any _ xs la ca 84 w5 (HA.out.old T5.out) hla hca (by omega)).mono ?_
    rintro e w6 ⟨g6, c6, rfl, hc6, hg6, O6, T6'⟩
    have T6 := Lib.hid (T5.out.trans T6')
    have HO6 := Lib.hid O6.has
    obtain ⟨n, hn2⟩ : ∃ n : Nat, min la 84 = n := ⟨_, rfl⟩
    have hn84 : n ≤ 84 := by omega
    rw [hn2] at hc6 ⊢
    have HL6 := Lib.hid (show (xs.take 84).length = n by rw [List.length_take]; omega)
    clear T6' T5 O6 hg6 HO5 HL5 hn2
    generalize xs.take 84 = X at *
    go_wp2_with fail
    refine (refclose_any _ X n c6 w6 HO6.out HL6.out hn84).mono ?_
    rintro e w7 ⟨g, c, rfl, hc, hg, O7, T7'⟩
    have T7 := Lib.hid (T6.out.trans T7')
    have hgw : w.heap.size ≤ g := Nat.le_trans T6.out.size hg
    have K7 : Hid (∃ Z, Z.length = 96 ∧ Own w7 g Z ∧ Old w w7) := ⟨_, track_length (by rw [HL6.out]; exact hn84), O7, T7.out⟩
    clear T7 T7' T6 O7 HO6 HL6 hg
    go_wp2_with fail
    go_loopw [20] (fun i wx => ∃ j : Nat, j ≤ 2 ∧ j ≤ lt ∧ i = .int .i64 j ∧ Hid (∃ Z, Z.length = 96 ∧ Own wx g Z ∧ Old w wx)) (fun i _ => 2 - (intOf i).toNat)
    case atStart => exact ⟨0, by omega, by omega, rfl, K7⟩
    case round =>
      obtain ⟨j, hj2, hjl, rfl, K⟩ := hrel
      clear K7
      obtain ⟨Z, hZl, OZ, TZ⟩ := K.out
      have HZl := Lib.hid hZl
      have HOZ := Lib.hid OZ
      have HTZ := Lib.hid TZ
      clear K hZl OZ TZ
      by_cases hlt : j < lt ∧ j < 2
      · obtain ⟨h1, h2⟩ := hlt
        have h1' : (j : Int) < (lt : Int) := by omega
        have h2' : (j : Int) < 2 := by omega
        have h3' : (0 : Int) ≤ (j : Int) := by omega
        obtain ⟨b, off, rfl, hb, hq⟩ := HT.out j h1
        have hq' := (HTZ.out.cell (p := ⟨b, off + j, none⟩) hb (fun h => h)).trans hq
        clear hq hb
        go_wp2_with fail
        refine (pick_any (q j) 96 (by omega) (by omega) _).mono ?_
        rintro e w' ⟨k, hk, rfl, rfl⟩
        have hk96 : k < 96 := by omega
        have hk0 : (0 : Int) ≤ (k : Int) := by omega
        have hc1 := HOZ.out.cell k (by rw [HZl.out]; exact hk96)
        have hf1 := HOZ.out.frozen k
        obtain ⟨v, hv, hv256⟩ := xor_byte (at0 Z k) y
        have K' : Hid (∃ Z, Z.length = 96 ∧ Own (wr.setCell ⟨g, k, none⟩ (.int .u8 (v : Int))) g Z ∧ Old w (wr.setCell ⟨g, k, none⟩ (.int .u8 (v : Int)))) :=
          ⟨Z.set k v, by rw [List.length_set]; exact HZl.out, HOZ.out.set k v (by rw [HZl.out]; exact hk96) hv256, HTZ.out.setCell (p := ⟨g, k, none⟩) (.inr hgw) _⟩
        clear HZl HOZ HTZ
        generalize at0 Z k = x at *
        go_wp2_with fail
        exact ⟨⟨j + 1, by omega, by omega, by go_num, K'⟩, by simp only [intOf]; omega⟩
      · have hx : ¬ (j : Int) < (lt : Int) ∨ ((j : Int) < (lt : Int) ∧ ¬ (j : Int) < 2) := by omega
        clear hlt
        rcases hx with hx | ⟨hx1, hx2⟩
        all_goals
          go_wp2_with fail
          refine (open_all _ Z 96 c wr HOZ.out.has HZl.out hc).mono ?_
          rintro e w8 ⟨a8, n8, c8, rfl, H8', hl8, T8'⟩
          have T8 := Lib.hid (HTZ.out.trans T8')
          have HZ8 := Lib.hid (HOZ.out.has.old T8')
          have H8 := Lib.hid H8'
          have HL8 := Lib.hid hl8
          clear T8' H8' hl8 HOZ HTZ
          go_wp2_with fail
          refine (refopen_all _ Z 96 c w8 HZ8.out HZl.out hc).mono ?_
          rintro e w9 ⟨a9, n9, c9, rfl, H9', hl9, T9'⟩
          have T9 := Lib.hid (T8.out.trans T9')
          have H89 := Lib.hid (H8.out.old T9')
          have H9 := Lib.hid H9'
          have HL9 := Lib.hid hl9
          clear T9' H9' hl9 H8 T8 HZ8 HZl
          generalize opens Z = o2 at *
          generalize opened Z = D2 at *
          go_wp2_with fail
          refine (known_any _).mono ?_
          rintro e w10 ⟨rfl, T10'⟩
          have T10 := Lib.hid (T9.out.trans T10')
          have hs1 := str_any w10 a8 D2 n8 c8 (H89.out.old T10') HL8.out
          have hs2 := str_any w10 a9 D2 n9 c9 (H9.out.old T10') HL9.out
          clear T10' T9 H89 H9 HL8 HL9
          go_wp2_with fail
          go_ret
          exact ⟨rfl, T10.out.below (Nat.le_refl _) (fun _ _ h => h)⟩
end Go.Proofs.Ytgbgknjfbjmhgaa
