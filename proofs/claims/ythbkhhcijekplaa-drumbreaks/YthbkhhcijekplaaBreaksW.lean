/- The walk of lariatlaw4.DrumBreaks. -/
import Derived.Test.YthbkhhcijekplaaBreaks
import Derived.Deep.RegionWith
import Derived.Deep.DeepCutAuto
namespace Go.Proofs.Ythbkhhcijekplaa
open Go.RowKit

theorem breakOf_nat (a : Nat) : breakOf (a : Int) = some a := by unfold breakOf; rw [if_neg (by omega)]; rfl

set_option maxRecDepth 100000 in
set_option maxHeartbeats 3200000 in
theorem breaks_law (after : Int) (al : Option Addr) (ys : List Int) (len cap : Nat) (w : World) (hI : HasI w al ys) (hl : ys.length = len) :
    Calls Try.prog 6 #[.int .i64 after, .slice al len cap] w fun e w' => e = .returned (.bool true) ∧ Below w.heap.size w w' := by
  have hn := hnot
  have HI := Lib.hid hI
  have HL := Lib.hid hl
  clear hI hl
  go_enter Try.func6, Try.ntmps6
  go_wp2_with fail
  refine (known_any _).mono ?_
  rintro e w1 ⟨rfl, O1⟩
  have HO1 := Lib.hid O1
  clear O1
  go_wp2_with fail
  refine (new_st (w0 := w) 14 (by omega) (by omega) HO1.out).mono ?_
  rintro e w2 ⟨d, b2, rfl, S2, _⟩
  have HS2 := Lib.hid S2
  clear S2 HO1
  go_wp2_with fail
  refine (known_any _).mono ?_
  rintro e w3 ⟨rfl, O3⟩
  have HS3 := Lib.hid (HS2.out.step O3)
  clear O3 HS2
  go_wp2_with fail
  refine (all_any 7 w3).mono ?_
  rintro e w4 ⟨rfl, K4, O4⟩
  have HS4 := Lib.hid (HS3.out.step O4)
  have HK4 := Lib.hid K4
  clear K4 O4 HS3
  generalize w3.heap.size = g3 at *
  go_wp2_with fail
  refine (lay_st HS4.out (by decide) 0 g3 _ (by decide) (same_trk (byteOf_lt 7)) HK4.out 96).mono ?_
  rintro e w5 ⟨rfl, ⟨b5, S5⟩, _, _⟩
  rw [show (DS.new 14).err = 0 from rfl]
  have HS5 : Hid (St w d b5 ((DS.new 14).lay 0 (same 7)) w5) := S5
  clear S5 HS4 HK4
  go_wp2_with fail
  refine (settle_st HS5.out (by decide)).mono ?_
  rintro e w6 ⟨rfl, ⟨b6, S6⟩, _, _⟩
  rw [show ((DS.new 14).lay 0 (same 7)).err = 0 from rfl]
  have HS6 := Lib.hid S6
  clear S6 HS5
  go_wp2_with fail
  refine (pick_any after 15 (by omega) (by omega) _).mono ?_
  rintro e w' ⟨a, ha, rfl, rfl⟩
  go_wp2_with fail
  refine (break_st HS6.out (a : Int) (by omega)).mono ?_
  rintro e w7 ⟨rfl, ⟨b7, S7⟩, _, _⟩
  rw [breakOf_nat] at S7
  have HS7 : Hid (∃ b D, St w d b D w7 ∧ Brk a 0 D) := ⟨b7, _, S7, Brk.start a⟩
  clear S7 HS6
  go_wp2_with fail
  go_loopw [7] (fun i wx => ∃ k : Nat, k ≤ 25 ∧ i = .int .i64 k ∧ Hid (∃ b D, St w d b D wx ∧ Brk a k D)) (fun i _ => 26 - (intOf i).toNat)
  case atStart => exact ⟨0, by omega, rfl, HS7⟩
  case round =>
    obtain ⟨k, hk, rfl, HS⟩ := hrel
    clear HS7
    obtain ⟨b8, D8, S8, L8⟩ := HS.out
    have HS8 := Lib.hid S8
    have HL8 := Lib.hid L8
    clear HS S8 L8
    by_cases hgo : k < len ∧ k < 25
    · obtain ⟨h1, h2⟩ := hgo
      have h1' : (k : Int) < (len : Int) := by omega
      have h2' : (k : Int) < 25 := by omega
      have h0' : (0 : Int) ≤ (k : Int) := by omega
      obtain ⟨bb, off, rfl, hc⟩ := (HI.out.old HS8.out.old).cell k (by rw [HL.out]; exact h1)
      generalize ys.getD k 0 = y at *
      go_wp2_with fail
      refine (pick_any y 4 (by omega) (by omega) _).mono ?_
      rintro e w' ⟨q, hq, rfl, rfl⟩
      by_cases hq0 : q = 0
      · subst hq0
        clear hc
        go_wp2_with fail
        refine (settle_st HS8.out (by rw [HL8.out.turns]; omega)).mono ?_
        rintro e w9 ⟨rfl, ⟨b9, S9⟩, _, _⟩
        rw [HL8.out.err]
        have HL9 := Lib.hid HL8.out.settle
        have HS9 := Lib.hid S9
        clear S9 HS8 HL8
        generalize D8.settle = D9 at *
        by_cases hka : k < a
        · rw [if_pos hka]
          have Hd9 : Hid (D9.down = false) := by show D9.down = false; rw [HL9.out.down]; simp; omega
          have Ht9 : Hid (((D9.turns : Nat) : Int) = 2 + ((k : Int) + 1)) := by show ((D9.turns : Nat) : Int) = _; rw [HL9.out.turns]; omega
          have hmin : min ((k : Int) + 1) (a : Int) = (k : Int) + 1 := by omega
          have hka1 : (k : Int) < (a : Int) := by omega
          have hka2 : ¬ (a : Int) ≤ (k : Int) := by omega
          go_wp2_with fail
          refine (broken_any d b9 D9 _ _ HS9.out.dr.at_).mono ?_
          rintro e w' ⟨rfl, rfl⟩
          rw [Hd9.out]
          go_wp2_with fail
          refine (turns_any d b9 D9 _ _ HS9.out.dr.at_).mono ?_
          rintro e w' ⟨rfl, rfl⟩
          rw [Ht9.out]
          go_wp2_with fail
          refine ⟨⟨k + 1, by omega, by go_num, b9, D9, HS9.out, HL9.out⟩, by simp [intOf]; omega⟩
        · rw [if_neg hka]
          have Hd9 : Hid (D9.down = true) := by show D9.down = true; rw [HL9.out.down]; simp; omega
          have Ht9 : Hid (((D9.turns : Nat) : Int) = 2 + (a : Int)) := by show ((D9.turns : Nat) : Int) = _; rw [HL9.out.turns]; omega
          have hmin : min ((k : Int) + 1) (a : Int) = (a : Int) := by omega
          have hka1 : ¬ (k : Int) < (a : Int) := by omega
          have hka2 : (a : Int) ≤ (k : Int) := by omega
          go_wp2_with fail
          refine (broken_any d b9 D9 _ _ HS9.out.dr.at_).mono ?_
          rintro e w' ⟨rfl, rfl⟩
          rw [Hd9.out]
          go_wp2_with fail
          refine (turns_any d b9 D9 _ _ HS9.out.dr.at_).mono ?_
          rintro e w' ⟨rfl, rfl⟩
          rw [Ht9.out]
          go_wp2_with fail
          refine ⟨⟨k + 1, by omega, by go_num, b9, D9, HS9.out, HL9.out⟩, by simp [intOf]; omega⟩
      · have hq' : ((q : Int) == 0) = false := by simp; omega
        go_wp2_with fail
        refine (pick_any y 13 (by omega) (by omega) _).mono ?_
        rintro e w' ⟨q2, hq2, rfl, rfl⟩
        clear hc
        go_wp2_with fail
        refine (all_any (k : Int) wr).mono ?_
        rintro e w9 ⟨rfl, K9, O9⟩
        have HS9 := Lib.hid (HS8.out.step O9)
        have HK9 := Lib.hid K9
        clear K9 O9 HS8
        generalize wr.heap.size = g at *
        go_wp2_with fail
        have e1 : (1 + (q2 : Int)) = ((1 + q2 : Nat) : Int) := by omega
        rw [e1]
        clear e1
        refine (lay_st HS9.out (by rw [HL8.out.turns]; omega) (1 + q2) g _ (by rw [HL8.out.len]; omega) (same_trk (byteOf_lt _)) HK9.out 96).mono ?_
        rintro e w10 ⟨rfl, ⟨b9, S9⟩, _, _⟩
        rw [HL8.out.err]
        have HL9 := Lib.hid (HL8.out.lay (1 + q2) (same (byteOf (k : Int))) (by omega))
        have HS9 := Lib.hid S9
        clear S9 HL8 HK9
        generalize D8.lay (1 + q2) (same (byteOf (k : Int))) = D9 at *
        by_cases hka : k < a
        · rw [if_pos hka]
          have Hd9 : Hid (D9.down = false) := by show D9.down = false; rw [HL9.out.down]; simp; omega
          have Ht9 : Hid (((D9.turns : Nat) : Int) = 2 + ((k : Int) + 1)) := by show ((D9.turns : Nat) : Int) = _; rw [HL9.out.turns]; omega
          have hmin : min ((k : Int) + 1) (a : Int) = (k : Int) + 1 := by omega
          have hka1 : (k : Int) < (a : Int) := by omega
          have hka2 : ¬ (a : Int) ≤ (k : Int) := by omega
          go_wp2_with fail
          refine (broken_any d b9 D9 _ _ HS9.out.dr.at_).mono ?_
          rintro e w' ⟨rfl, rfl⟩
          rw [Hd9.out]
          go_wp2_with fail
          refine (turns_any d b9 D9 _ _ HS9.out.dr.at_).mono ?_
          rintro e w' ⟨rfl, rfl⟩
          rw [Ht9.out]
          go_wp2_with fail
          refine ⟨⟨k + 1, by omega, by go_num, b9, D9, HS9.out, HL9.out⟩, by simp [intOf]; omega⟩
        · rw [if_neg hka]
          have Hd9 : Hid (D9.down = true) := by show D9.down = true; rw [HL9.out.down]; simp; omega
          have Ht9 : Hid (((D9.turns : Nat) : Int) = 2 + (a : Int)) := by show ((D9.turns : Nat) : Int) = _; rw [HL9.out.turns]; omega
          have hmin : min ((k : Int) + 1) (a : Int) = (a : Int) := by omega
          have hka1 : ¬ (k : Int) < (a : Int) := by omega
          have hka2 : (a : Int) ≤ (k : Int) := by omega
          go_wp2_with fail
          refine (broken_any d b9 D9 _ _ HS9.out.dr.at_).mono ?_
          rintro e w' ⟨rfl, rfl⟩
          rw [Hd9.out]
          go_wp2_with fail
          refine (turns_any d b9 D9 _ _ HS9.out.dr.at_).mono ?_
          rintro e w' ⟨rfl, rfl⟩
          rw [Ht9.out]
          go_wp2_with fail
          refine ⟨⟨k + 1, by omega, by go_num, b9, D9, HS9.out, HL9.out⟩, by simp [intOf]; omega⟩
    · have hend : Hid (¬ (k < len ∧ k < 25)) := hgo
      by_cases h1 : (k : Int) < (len : Int)
      case pos => have h2 : ¬ (k : Int) < 25 := (by omega); clear hgo; (
          go_wp2_with fail
          refine (fall_st HS8.out (by rw [HL8.out.turns]; omega) none [] 0 0 (-1) 0 (HasI.nil _ _) rfl (by omega)).mono ?_
          rintro e w9 ⟨rfl, ⟨b9, S9⟩, _, _⟩
          have HS9 := Lib.hid S9
          have HX9 := Lib.hid (HL8.out.fallen (partOf [] (-1) 0))
          have HN9 : Hid ((D8.fall (partOf [] (-1) 0)).T.length = 14) := by show _ = _; simp only [DS.fall]; rw [falls_length, HL8.out.len]
          have Ht9 : Hid ((D8.fall (partOf [] (-1) 0)).turns = 2 + min k a) := HL8.out.turns
          have Hd9 : Hid ((D8.fall (partOf [] (-1) 0)).down = false) := rfl
          have He9 : Hid ((D8.fall (partOf [] (-1) 0)).err = 0) := rfl
          clear S9 HS8 HL8
          generalize D8.fall (partOf [] (-1) 0) = D9 at *
          go_wp2_with fail
          refine (look_st HS9.out 0 (by rw [HN9.out]; omega) Hd9.out).mono ?_
          rintro e w10 ⟨g10, rfl, _, K10, O10⟩
          rw [HX9.out] at K10
          have HS10 := Lib.hid (HS9.out.step O10)
          have HK10 := Lib.hid K10
          clear K10 O10 HS9
          go_wp2_with fail
          have HOd : Hid (Old w10 w10.drew) := (Touch.refl _ _).drew
          have h7b := Lib.hid (same_trk (c := 7) (by decide)).byte
          have h7l := Lib.hid (same_trk (c := 7) (by decide)).len
          have hs10 : (convert 28 9 (.slice (some ⟨g10, 0, none⟩) 96 96)).run Try.prog w10.drew = .ok (.string (strOf (same 7))) w10.drew := str_any w10.drew _ _ 96 96 (blk_has h7b.out ((Kept.of_old HOd.out).bytes HK10.out)) h7l.out
          have HSd := Lib.hid (HS10.out.step HOd.out)
          go_cut [4] (fun c wx => c = .bool true ∧ Hid (Old w wx))
          case first =>
            go_region_with (first
              | (go_at_call 11; refine (all_any 7 _).mono ?_; rintro e w11 ⟨rfl, K11, O11⟩; have HS11 := Lib.hid (HSd.out.step O11); have hs11 : (convert 28 9 (.slice (some ⟨w10.heap.size, 0, none⟩) 96 96)).run Try.prog w11 = .ok (.string (strOf (same 7))) w11 := (str_any w11 _ _ 96 96 (blk_has h7b.out K11) h7l.out); have hs12 : (convert 28 9 (.slice (some ⟨g10, 0, none⟩) 96 96)).run Try.prog w11 = .ok (.string (strOf (same 7))) w11 := (str_any w11 _ _ 96 96 (blk_has h7b.out ((Kept.of_old (HOd.out.trans O11)).bytes HK10.out)) h7l.out); clear K11 O11)
              | (go_at_call 17; refine (broken_any d b9 D9 _ _ HS11.out.dr.at_).mono ?_; rintro e w' ⟨rfl, rfl⟩; rw [Hd9.out])
              | (go_at_call 16; refine (settle_st HS11.out (by rw [Ht9.out]; omega)).mono ?_; rintro e w13 ⟨rfl, ⟨b13, S13⟩, _, _⟩; rw [He9.out]; have HO13 := Lib.hid S13.old; clear S13))
            all_goals (go_wp2_with fail; go_meet; exact ⟨rfl, HO13⟩)
          case rest =>
            obtain ⟨rfl, HO13⟩ := hcut
            go_wp2_with fail
            go_ret
            exact ⟨rfl, HO13.out.below (Nat.le_refl _) (fun _ _ h => h)⟩)
      case neg => clear hgo; (
          go_wp2_with fail
          refine (fall_st HS8.out (by rw [HL8.out.turns]; omega) none [] 0 0 (-1) 0 (HasI.nil _ _) rfl (by omega)).mono ?_
          rintro e w9 ⟨rfl, ⟨b9, S9⟩, _, _⟩
          have HS9 := Lib.hid S9
          have HX9 := Lib.hid (HL8.out.fallen (partOf [] (-1) 0))
          have HN9 : Hid ((D8.fall (partOf [] (-1) 0)).T.length = 14) := by show _ = _; simp only [DS.fall]; rw [falls_length, HL8.out.len]
          have Ht9 : Hid ((D8.fall (partOf [] (-1) 0)).turns = 2 + min k a) := HL8.out.turns
          have Hd9 : Hid ((D8.fall (partOf [] (-1) 0)).down = false) := rfl
          have He9 : Hid ((D8.fall (partOf [] (-1) 0)).err = 0) := rfl
          clear S9 HS8 HL8
          generalize D8.fall (partOf [] (-1) 0) = D9 at *
          go_wp2_with fail
          refine (look_st HS9.out 0 (by rw [HN9.out]; omega) Hd9.out).mono ?_
          rintro e w10 ⟨g10, rfl, _, K10, O10⟩
          rw [HX9.out] at K10
          have HS10 := Lib.hid (HS9.out.step O10)
          have HK10 := Lib.hid K10
          clear K10 O10 HS9
          go_wp2_with fail
          have HOd : Hid (Old w10 w10.drew) := (Touch.refl _ _).drew
          have h7b := Lib.hid (same_trk (c := 7) (by decide)).byte
          have h7l := Lib.hid (same_trk (c := 7) (by decide)).len
          have hs10 : (convert 28 9 (.slice (some ⟨g10, 0, none⟩) 96 96)).run Try.prog w10.drew = .ok (.string (strOf (same 7))) w10.drew := str_any w10.drew _ _ 96 96 (blk_has h7b.out ((Kept.of_old HOd.out).bytes HK10.out)) h7l.out
          have HSd := Lib.hid (HS10.out.step HOd.out)
          go_cut [4] (fun c wx => c = .bool true ∧ Hid (Old w wx))
          case first =>
            go_region_with (first
              | (go_at_call 11; refine (all_any 7 _).mono ?_; rintro e w11 ⟨rfl, K11, O11⟩; have HS11 := Lib.hid (HSd.out.step O11); have hs11 : (convert 28 9 (.slice (some ⟨w10.heap.size, 0, none⟩) 96 96)).run Try.prog w11 = .ok (.string (strOf (same 7))) w11 := (str_any w11 _ _ 96 96 (blk_has h7b.out K11) h7l.out); have hs12 : (convert 28 9 (.slice (some ⟨g10, 0, none⟩) 96 96)).run Try.prog w11 = .ok (.string (strOf (same 7))) w11 := (str_any w11 _ _ 96 96 (blk_has h7b.out ((Kept.of_old (HOd.out.trans O11)).bytes HK10.out)) h7l.out); clear K11 O11)
              | (go_at_call 17; refine (broken_any d b9 D9 _ _ HS11.out.dr.at_).mono ?_; rintro e w' ⟨rfl, rfl⟩; rw [Hd9.out])
              | (go_at_call 16; refine (settle_st HS11.out (by rw [Ht9.out]; omega)).mono ?_; rintro e w13 ⟨rfl, ⟨b13, S13⟩, _, _⟩; rw [He9.out]; have HO13 := Lib.hid S13.old; clear S13))
            all_goals (go_wp2_with fail; go_meet; exact ⟨rfl, HO13⟩)
          case rest =>
            obtain ⟨rfl, HO13⟩ := hcut
            go_wp2_with fail
            go_ret
            exact ⟨rfl, HO13.out.below (Nat.le_refl _) (fun _ _ h => h)⟩)
end Go.Proofs.Ythbkhhcijekplaa
