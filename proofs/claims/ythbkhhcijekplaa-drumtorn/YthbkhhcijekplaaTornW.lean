/- The walk of lariatlaw4.DrumTorn. -/
import Derived.Test.YthbkhhcijekplaaTorn
import Derived.Deep.RegionWith
namespace Go.Proofs.Ythbkhhcijekplaa
open Go.RowKit

/-- What is laid on a track first. -/
def oldOf (old : Int) (k : Nat) : Nat := byteOf (wrap64 (old + (k : Int)))

set_option maxRecDepth 100000 in
set_option maxHeartbeats 3200000 in
theorem torn_law (old fresh track cut : Int) (a : Option Addr) (ys : List Int) (len cap : Nat) (w : World) (hI : HasI w a ys) (hl : ys.length = len) :
    Calls Try.prog 7 #[.int .i64 old, .int .i64 fresh, .int .i64 track, .int .i64 cut, .slice a len cap] w fun e w' => e = .returned (.bool true) ∧ Below w.heap.size w w' := by
  have hn := hnot
  have HI := Lib.hid hI
  have HL := Lib.hid hl
  clear hI hl
  go_enter Try.func7, Try.ntmps7
  go_wp2_with fail
  refine (known_any _).mono ?_
  rintro e w1 ⟨rfl, O1⟩
  have HO1 := Lib.hid O1
  clear O1
  go_wp2_with fail
  refine (new_st (w0 := w) 11 (by omega) (by omega) HO1.out).mono ?_
  rintro e w2 ⟨d, b2, rfl, S2, _⟩
  have HS2 := Lib.hid S2
  clear S2 HO1
  go_wp2_with fail
  refine (pick_any track 11 (by omega) (by omega) _).mono ?_
  rintro e w' ⟨tr, htr, rfl, rfl⟩
  go_wp2_with fail
  refine (known_any _).mono ?_
  rintro e w3 ⟨rfl, O3⟩
  have HS3 : Hid (∃ b D, St w d b D w3 ∧ Laid D (oldOf old) 0) := ⟨b2, _, HS2.out.step O3, ⟨Calm.new 11, fun k hk => absurd hk (Nat.not_lt_zero _)⟩⟩
  clear O3 HS2
  go_wp2_with fail
  go_loopw [13] (fun i wx => ∃ k : Nat, k ≤ 11 ∧ i = .int .i64 k ∧ Hid (∃ b D, St w d b D wx ∧ Laid D (oldOf old) k)) (fun i _ => 11 - (intOf i).toNat)
  case atStart => exact ⟨0, by omega, rfl, HS3⟩
  case round =>
    obtain ⟨k, hk, rfl, HS⟩ := hrel
    clear HS3
    obtain ⟨b4, D4, S4, L4⟩ := HS.out
    have HS4 := Lib.hid S4
    have HL4 := Lib.hid L4
    clear HS S4 L4
    by_cases hlt : k < 11
    · have hlt' : (k : Int) < 11 := by omega
      go_wp2_with fail
      refine (all_any (wrap64 (old + (k : Int))) wr).mono ?_
      rintro e w5 ⟨rfl, K5, O5⟩
      have HS5 := Lib.hid (HS4.out.step O5)
      have HK5 : Hid (Blk w5 wr.heap.size 5 (cells (same (oldOf old k)))) := K5
      clear K5 O5 HS4
      generalize wr.heap.size = g at *
      go_wp2_with fail
      refine (lay_st HS5.out (by rw [HL4.out.calm.turns]; omega) k g _ (by rw [HL4.out.calm.len]; exact hlt) (same_trk (byteOf_lt _)) HK5.out 96).mono ?_
      rintro e w6 ⟨rfl, ⟨b6, S6⟩, _, _⟩
      rw [HL4.out.calm.err]
      have HN : Hid (∃ b D, St w d b D w6 ∧ Laid D (oldOf old) (k + 1)) := ⟨b6, _, S6, HL4.out.next hlt⟩
      clear S6 HS5 HK5 HL4
      go_wp2_with fail
      refine ⟨⟨k + 1, by omega, by go_num, HN⟩, by simp [intOf]; omega⟩
    · obtain rfl : k = 11 := by omega
      go_wp2_with fail
      refine (settle_st HS4.out (by rw [HL4.out.calm.turns]; omega)).mono ?_
      rintro e w5 ⟨rfl, ⟨b5, S5⟩, _, _⟩
      have HS5 : Hid (∃ b D, St w d b D w5 ∧ Sett D (oldOf old) 0) := ⟨b5, _, S5, HL4.out.sett⟩
      clear S5 HS4 HL4
      generalize D4.err = er
      go_wp2_with fail
      go_loopw [14] (fun i wx => ∃ j : Nat, j ≤ 10 ∧ i = .int .i64 j ∧ Hid (∃ b D, St w d b D wx ∧ Sett D (oldOf old) j)) (fun i _ => 11 - (intOf i).toNat)
      case atStart => exact ⟨0, by omega, rfl, HS5⟩
      case round =>
        obtain ⟨j, hj, rfl, HS⟩ := hrel
        clear HS5
        obtain ⟨b6, D6, S6, L6⟩ := HS.out
        have HS6 := Lib.hid S6
        have HL6 := Lib.hid L6
        clear HS S6 L6
        by_cases hgo : j < len ∧ j < 10
        · obtain ⟨h1, h2⟩ := hgo
          have h1' : (j : Int) < (len : Int) := by omega
          have h2' : (j : Int) < 10 := by omega
          have h0' : (0 : Int) ≤ (j : Int) := by omega
          obtain ⟨bb, off, rfl, hc⟩ := (HI.out.old HS6.out.old).cell j (by rw [HL.out]; exact h1)
          generalize ys.getD j 0 = y at *
          go_wp2_with fail
          refine (pick_any y 11 (by omega) (by omega) _).mono ?_
          rintro e w' ⟨q, hq, rfl, rfl⟩
          clear hc
          go_wp2_with fail
          refine (all_any 99 wr).mono ?_
          rintro e w7 ⟨rfl, K7, O7⟩
          have HS7 := Lib.hid (HS6.out.step O7)
          have HK7 := Lib.hid K7
          clear K7 O7 HS6
          generalize wr.heap.size = g at *
          go_wp2_with fail
          refine (lay_st HS7.out (by rw [HL6.out.calm.turns]; omega) q g _ (by rw [HL6.out.calm.len]; omega) (same_trk (byteOf_lt _)) HK7.out 96).mono ?_
          rintro e w8 ⟨rfl, ⟨b8, S8⟩, _, _⟩
          have HN : Hid (∃ b D, St w d b D w8 ∧ Sett D (oldOf old) (j + 1)) := ⟨b8, _, S8, HL6.out.next _ _⟩
          clear S8 HS7 HK7 HL6
          generalize D6.err = er2
          go_wp2_with fail
          refine ⟨⟨j + 1, by omega, by go_num, HN⟩, by simp [intOf]; omega⟩
        · have hcut : max 0 (min cut 96) = (cutOf cut : Int) := by unfold cutOf; omega
          have hcl := cutOf_le cut
          obtain ⟨cc, hcc⟩ : ∃ cc, cutOf cut = cc := ⟨_, rfl⟩
          rw [hcc] at hcut hcl
          have HC := Lib.hid hcc
          clear hcc
          have hend : Hid (¬ (j < len ∧ j < 10)) := hgo
          by_cases h1 : (j : Int) < (len : Int)
          case pos => have h2 : ¬ (j : Int) < 10 := (by omega); clear hgo; (
            go_wp2_with fail
            refine (afloat_any d b6 D6 _ wr HS6.out.dr.at_ HS6.out.dr.ok (by rw [HL6.out.calm.turns]; omega)).mono ?_
            rintro e w7 ⟨rfl, _, O7⟩
            rw [HL6.out.afl]
            have HS7 := Lib.hid (HS6.out.step O7)
            clear O7 HS6
            generalize wr.heap.size = gz
            go_wp2_with fail
            refine (all_any fresh w7).mono ?_
            rintro e w8 ⟨rfl, K8, O8⟩
            have HS8 := Lib.hid (HS7.out.step O8)
            have HK8 := Lib.hid K8
            clear K8 O8 HS7
            generalize w7.heap.size = g7 at *
            go_wp2_with fail
            refine (lay_st HS8.out (by rw [HL6.out.calm.turns]; omega) tr g7 _ (by rw [HL6.out.calm.len]; omega) (same_trk (byteOf_lt _)) HK8.out 96).mono ?_
            rintro e w9 ⟨rfl, ⟨b9, S9⟩, _, _⟩
            have HS9 := Lib.hid S9
            have HC9 := Lib.hid (HL6.out.calm.lay tr (same (byteOf fresh)))
            have HT9 := Lib.hid (HL6.out.torn HS8.out.dr.ok tr (by omega) (same (byteOf fresh)) cut)
            rw [HC.out] at HT9
            clear S9 HS8 HK8 HL6
            generalize D6.err = er3
            go_wp2_with fail
            refine (fall_st HS9.out (by rw [HC9.out.turns]; omega) none [] 0 0 (j : Int) cut (HasI.nil _ _) rfl (by omega)).mono ?_
            rintro e w10 ⟨rfl, ⟨b10, S10⟩, _, _⟩
            have HS10 := Lib.hid S10
            have HC10 := Lib.hid (HC9.out.fall (partOf [] (j : Int) cut))
            have HE10 : Hid (((D6.lay tr (same (byteOf fresh))).fall (partOf [] (j : Int) cut)).seen = ((D6.lay tr (same (byteOf fresh))).fall (partOf [] (j : Int) cut)).T) := rfl
            clear S10 HS9 HC9
            generalize (D6.lay tr (same (byteOf fresh))).fall (partOf [] (j : Int) cut) = D10 at *
            go_wp2_with fail
            go_loopw [16] (fun i wx => ∃ k : Nat, k ≤ 11 ∧ i = .int .i64 k ∧ Hid (St w d b10 D10 wx)) (fun i _ => 11 - (intOf i).toNat)
            case atStart => exact ⟨0, by omega, rfl, HS10⟩
            case round =>
              obtain ⟨k, hk, rfl, HS⟩ := hrel
              clear HS10
              by_cases hlt : k < 11
              · have hlt' : (k : Int) < 11 := by omega
                go_wp2_with fail
                refine (look_st HS.out k (by rw [HC10.out.len]; exact hlt) HC10.out.down).mono ?_
                rintro e w11 ⟨g11, rfl, _, K11, O11⟩
                rw [HE10.out, HT9.out k hlt] at K11
                have HS11 := Lib.hid (HS.out.step O11)
                have HK11 := Lib.hid K11
                clear K11 O11 HS
                go_wp2_with fail
                refine (all_any (wrap64 (old + (k : Int))) w11).mono ?_
                rintro e w12 ⟨rfl, K12, O12⟩
                have hs12 := str_any w12 _ _ 96 96 (blk_has (same_trk (byteOf_lt _)).byte K12) (same_trk (byteOf_lt _)).len
                have HS12 := Lib.hid (HS11.out.step O12)
                have HK12 := Lib.hid ((Kept.of_old O12).bytes HK11.out)
                clear K12 O12 HS11 HK11
                generalize w11.heap.size = g12 at *
                by_cases hkt : k = tr
                · subst hkt
                  rw [if_pos rfl] at HK12
                  have hX : (strOf (same (byteOf fresh))).size = 96 := by rw [strOf_size]; simp [same]
                  have hY : (strOf (same (byteOf (wrap64 (old + (k : Int)))))).size = 96 := by rw [strOf_size]; simp [same]
                  have hc0 : (0 : Int) ≤ (cc : Int) := by omega
                  have hc9 : (cc : Int) ≤ 96 := by omega
                  have HCC := Lib.hid (strOf_mix (same (byteOf fresh)) (same (oldOf old k)) cc (same_trk (byteOf_lt _)).len)
                  have HMX := Lib.hid (mix_trk (same_trk (byteOf_lt fresh)) (same_trk (byteOf_lt (wrap64 (old + (k : Int))))) hcl)
                  have HMX : Hid (Trk (mix cc (same (byteOf fresh)) (same (oldOf old k)))) := HMX
                  have HD12 : Hid (Old w12 w12.drew) := (Touch.refl _ _).drew
                  rw [show strOf (same (oldOf old k)) = strOf (same (byteOf (wrap64 (old + (k : Int))))) from rfl] at HCC
                  generalize strOf (same (byteOf (wrap64 (old + (k : Int))))) = Y at *
                  generalize hXX : strOf (same (byteOf fresh)) = X at *
                  go_wp2_with fail
                  go_region_with (first | (go_at_call 11; refine (all_any fresh _).mono ?_; rintro e w13 ⟨rfl, K13, O13⟩; have hs13 : (convert 28 9 (.slice (some ⟨w12.heap.size, 0, none⟩) 96 96)).run Try.prog w13 = .ok (.string X) w13 := (by rw [← hXX]; exact str_any w13 _ _ 96 96 (blk_has (same_trk (byteOf_lt _)).byte K13) (same_trk (byteOf_lt _)).len)))
                  rw [HCC.out]
                  have hs14 := str_any w13 _ _ 96 96 (blk_has HMX.out.byte ((Kept.of_old (HD12.out.trans O13)).bytes HK12.out)) HMX.out.len
                  have HS13 := Lib.hid (HS12.out.step (HD12.out.trans O13))
                  clear K13 O13 hs13 hs12 hX hY hc0 hc9
                  generalize strOf (mix cc (same (byteOf fresh)) (same (oldOf old k))) = Z at *
                  go_wp2_with fail
                  refine ⟨⟨k + 1, by omega, by go_num, HS13⟩, by simp [intOf]; omega⟩
                · rw [if_neg hkt] at HK12
                  have hkt' : ((k : Int) == (tr : Int)) = false := by simp; omega
                  have hkt2 : ¬ (k : Int) = (tr : Int) := by omega
                  have hs14 := str_any w12 _ _ 96 96 (blk_has (same_trk (byteOf_lt _)).byte HK12.out) (same_trk (byteOf_lt _)).len
                  generalize strOf (same (byteOf (wrap64 (old + (k : Int))))) = Y at *
                  go_wp2_with fail
                  refine ⟨⟨k + 1, by omega, by go_num, HS12⟩, by simp [intOf]; omega⟩
              · obtain rfl : k = 11 := by omega
                go_wp2_with fail
                go_ret
                exact ⟨rfl, HS.out.old.below (Nat.le_refl _) (fun _ _ h => h)⟩)
          case neg => clear hgo; (
            go_wp2_with fail
            refine (afloat_any d b6 D6 _ wr HS6.out.dr.at_ HS6.out.dr.ok (by rw [HL6.out.calm.turns]; omega)).mono ?_
            rintro e w7 ⟨rfl, _, O7⟩
            rw [HL6.out.afl]
            have HS7 := Lib.hid (HS6.out.step O7)
            clear O7 HS6
            generalize wr.heap.size = gz
            go_wp2_with fail
            refine (all_any fresh w7).mono ?_
            rintro e w8 ⟨rfl, K8, O8⟩
            have HS8 := Lib.hid (HS7.out.step O8)
            have HK8 := Lib.hid K8
            clear K8 O8 HS7
            generalize w7.heap.size = g7 at *
            go_wp2_with fail
            refine (lay_st HS8.out (by rw [HL6.out.calm.turns]; omega) tr g7 _ (by rw [HL6.out.calm.len]; omega) (same_trk (byteOf_lt _)) HK8.out 96).mono ?_
            rintro e w9 ⟨rfl, ⟨b9, S9⟩, _, _⟩
            have HS9 := Lib.hid S9
            have HC9 := Lib.hid (HL6.out.calm.lay tr (same (byteOf fresh)))
            have HT9 := Lib.hid (HL6.out.torn HS8.out.dr.ok tr (by omega) (same (byteOf fresh)) cut)
            rw [HC.out] at HT9
            clear S9 HS8 HK8 HL6
            generalize D6.err = er3
            go_wp2_with fail
            refine (fall_st HS9.out (by rw [HC9.out.turns]; omega) none [] 0 0 (j : Int) cut (HasI.nil _ _) rfl (by omega)).mono ?_
            rintro e w10 ⟨rfl, ⟨b10, S10⟩, _, _⟩
            have HS10 := Lib.hid S10
            have HC10 := Lib.hid (HC9.out.fall (partOf [] (j : Int) cut))
            have HE10 : Hid (((D6.lay tr (same (byteOf fresh))).fall (partOf [] (j : Int) cut)).seen = ((D6.lay tr (same (byteOf fresh))).fall (partOf [] (j : Int) cut)).T) := rfl
            clear S10 HS9 HC9
            generalize (D6.lay tr (same (byteOf fresh))).fall (partOf [] (j : Int) cut) = D10 at *
            go_wp2_with fail
            go_loopw [16] (fun i wx => ∃ k : Nat, k ≤ 11 ∧ i = .int .i64 k ∧ Hid (St w d b10 D10 wx)) (fun i _ => 11 - (intOf i).toNat)
            case atStart => exact ⟨0, by omega, rfl, HS10⟩
            case round =>
              obtain ⟨k, hk, rfl, HS⟩ := hrel
              clear HS10
              by_cases hlt : k < 11
              · have hlt' : (k : Int) < 11 := by omega
                go_wp2_with fail
                refine (look_st HS.out k (by rw [HC10.out.len]; exact hlt) HC10.out.down).mono ?_
                rintro e w11 ⟨g11, rfl, _, K11, O11⟩
                rw [HE10.out, HT9.out k hlt] at K11
                have HS11 := Lib.hid (HS.out.step O11)
                have HK11 := Lib.hid K11
                clear K11 O11 HS
                go_wp2_with fail
                refine (all_any (wrap64 (old + (k : Int))) w11).mono ?_
                rintro e w12 ⟨rfl, K12, O12⟩
                have hs12 := str_any w12 _ _ 96 96 (blk_has (same_trk (byteOf_lt _)).byte K12) (same_trk (byteOf_lt _)).len
                have HS12 := Lib.hid (HS11.out.step O12)
                have HK12 := Lib.hid ((Kept.of_old O12).bytes HK11.out)
                clear K12 O12 HS11 HK11
                generalize w11.heap.size = g12 at *
                by_cases hkt : k = tr
                · subst hkt
                  rw [if_pos rfl] at HK12
                  have hX : (strOf (same (byteOf fresh))).size = 96 := by rw [strOf_size]; simp [same]
                  have hY : (strOf (same (byteOf (wrap64 (old + (k : Int)))))).size = 96 := by rw [strOf_size]; simp [same]
                  have hc0 : (0 : Int) ≤ (cc : Int) := by omega
                  have hc9 : (cc : Int) ≤ 96 := by omega
                  have HCC := Lib.hid (strOf_mix (same (byteOf fresh)) (same (oldOf old k)) cc (same_trk (byteOf_lt _)).len)
                  have HMX := Lib.hid (mix_trk (same_trk (byteOf_lt fresh)) (same_trk (byteOf_lt (wrap64 (old + (k : Int))))) hcl)
                  have HMX : Hid (Trk (mix cc (same (byteOf fresh)) (same (oldOf old k)))) := HMX
                  have HD12 : Hid (Old w12 w12.drew) := (Touch.refl _ _).drew
                  rw [show strOf (same (oldOf old k)) = strOf (same (byteOf (wrap64 (old + (k : Int))))) from rfl] at HCC
                  generalize strOf (same (byteOf (wrap64 (old + (k : Int))))) = Y at *
                  generalize hXX : strOf (same (byteOf fresh)) = X at *
                  go_wp2_with fail
                  go_region_with (first | (go_at_call 11; refine (all_any fresh _).mono ?_; rintro e w13 ⟨rfl, K13, O13⟩; have hs13 : (convert 28 9 (.slice (some ⟨w12.heap.size, 0, none⟩) 96 96)).run Try.prog w13 = .ok (.string X) w13 := (by rw [← hXX]; exact str_any w13 _ _ 96 96 (blk_has (same_trk (byteOf_lt _)).byte K13) (same_trk (byteOf_lt _)).len)))
                  rw [HCC.out]
                  have hs14 := str_any w13 _ _ 96 96 (blk_has HMX.out.byte ((Kept.of_old (HD12.out.trans O13)).bytes HK12.out)) HMX.out.len
                  have HS13 := Lib.hid (HS12.out.step (HD12.out.trans O13))
                  clear K13 O13 hs13 hs12 hX hY hc0 hc9
                  generalize strOf (mix cc (same (byteOf fresh)) (same (oldOf old k))) = Z at *
                  go_wp2_with fail
                  refine ⟨⟨k + 1, by omega, by go_num, HS13⟩, by simp [intOf]; omega⟩
                · rw [if_neg hkt] at HK12
                  have hkt' : ((k : Int) == (tr : Int)) = false := by simp; omega
                  have hkt2 : ¬ (k : Int) = (tr : Int) := by omega
                  have hs14 := str_any w12 _ _ 96 96 (blk_has (same_trk (byteOf_lt _)).byte HK12.out) (same_trk (byteOf_lt _)).len
                  generalize strOf (same (byteOf (wrap64 (old + (k : Int))))) = Y at *
                  go_wp2_with fail
                  refine ⟨⟨k + 1, by omega, by go_num, HS12⟩, by simp [intOf]; omega⟩
              · obtain rfl : k = 11 := by omega
                go_wp2_with fail
                go_ret
                exact ⟨rfl, HS.out.old.below (Nat.le_refl _) (fun _ _ h => h)⟩)
end Go.Proofs.Ythbkhhcijekplaa
