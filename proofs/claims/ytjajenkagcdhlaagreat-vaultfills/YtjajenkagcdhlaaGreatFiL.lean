/- The walk of lariatlaw6.VaultFills. -/
import Derived.Test.YtjajenkagcdhlaaGreatFiW
namespace Go.Proofs.YtjajenkagcdhlaaGreat
open Go.RowKit
set_option maxRecDepth 100000

theorem FR.ids {w0 w : World} {vp d need n id lp x : Nat} {rs : Recs} (f : FR w0 vp d need n id lp x rs w) : Calls Tryz.prog 31 #[.pointer (some ⟨vp, 0, none⟩)] w fun y w' => ∃ p c, y = .returned (.slice p n c) ∧ n ≤ c ∧ Its w' p (idsTo rs 41) ∧ (idsTo rs 41).length = n ∧ Old w w' := by
  refine (vids_any f.1.mem).mono ?_
  rintro y w' ⟨v, rfl, M, O⟩
  obtain ⟨p, c, rfl, hc, I, _⟩ := mineI_its M
  have hl := idsTo_all f.1.mem.rok.r41
  rw [f.2.2.1] at hl
  rw [hl] at hc ⊢
  exact ⟨p, c, rfl, hc, I, rfl, O⟩
theorem Fills.free {w0 w : World} {vp d need n id : Nat} (f : Fills w0 vp d need n id w) : Calls Tryz.prog 34 #[.pointer (some ⟨vp, 0, none⟩)] w fun y w' => y = .returned (.int .i64 ((27 - n * need : Nat) : Int)) ∧ w = w' := by
  obtain ⟨lp, x, rs, V, hsum, _⟩ := f
  have := vfree_any V.mem
  rwa [hsum] at this
theorem Fills.first {w0 w : World} {vp d lp x need : Nat} (V : Vt w0 vp lp d x 40 28 3 true (fun X => X = home0 28) (home0 28) rs0 rs0 ps0 w) : Fills w0 vp d need 0 1 w := by
  refine ⟨lp, x, rs0, V, by rw [Nat.zero_mul]; exact sum0, cnt0, fun k b hb => ?_, fun k _ h => ?_⟩
  · have hk : k < 41 := by have := lt_of_get hb; simpa [rs0] using this
    unfold rs0 at hb
    rw [List.getElem?_replicate, if_pos hk] at hb
    cases hb
  · unfold rs0
    rw [List.getElem?_replicate, if_pos h]
set_option maxHeartbeats 6400000 in
theorem fills_law (a0 : Int) (p1 : Option Addr) (ys : List Int) (len cap : Nat) (w : World) (hI : HasI w p1 ys) (hlen : ys.length = len) (hlm : len ≤ maxLen) : Calls Tryz.prog 8 #[.int .i64 a0, .slice p1 len cap] w fun e w' => e = .returned (.bool true) ∧ Below w.heap.size w w' := by
  have HI := Lib.hid hI
  have HLn := Lib.hid hlen
  have hlm' := Lib.hid hlm
  clear hI hlen hlm
  go_enter Tryz.func8, Tryz.ntmps8
  go_wp2_with fail
  refine (known_any w).mono ?_
  rintro y w1 ⟨rfl, O1⟩
  have HO1 := Lib.hid O1
  have HFo : Hid (Calls Tryz.prog 10 #[.int .i64 70, .int .i64 40] w1 fun y w' => ∃ vp lp d x, y = .returned (.tuple #[.pointer (some ⟨vp, 0, none⟩), .pointer (some ⟨d, 0, none⟩)]) ∧ Vt w vp lp d x 40 28 3 true (fun X => X = home0 28) (home0 28) rs0 rs0 ps0 w' ∧ KeptV w1 w') := lfound_any O1 (n := 70) (l := 40) (h := 28) rfl (by omega) (by omega) (by omega) (by omega)
  clear O1
  go_wp2_with fail
  refine HFo.out.mono ?_
  rintro y w2 ⟨vp, lp, d, x, rfl, V2, _⟩
  have HV2 := Lib.hid V2
  have HK2 := Lib.hid (known_any w2)
  clear V2 HFo
  go_wp2_with fail
  refine HK2.out.mono ?_
  rintro y w3 ⟨rfl, O3⟩
  have HV3 := Lib.hid (HV2.out.old O3)
  clear O3 HK2 HV2
  go_wp2_with fail
  refine (pick_big a0 700 (by omega) (by omega) w3).mono ?_
  rintro y w' ⟨s, hs, rfl, rfl⟩
  obtain ⟨need, hneed⟩ : ∃ need, takesN s = need := ⟨_, rfl⟩
  have hn9 : 1 ≤ need ∧ need ≤ 9 := by rw [← hneed]; unfold takesN; omega
  have HNd := Lib.hid hneed
  have hF3 : Fills w vp d need 0 1 w3 := Fills.first HV3.out
  have HF3 := Lib.hid hF3
  have HFr : Hid (Calls Tryz.prog 34 #[.pointer (some ⟨vp, 0, none⟩)] w3 fun y w' => y = .returned (.int .i64 27) ∧ w3 = w') := by
    have := hF3.free
    rw [Nat.zero_mul] at this
    exact this
  have hw1 : IntKind.i64.wrap ((s : Int) + 79) = (s : Int) + 79 := wrap_fits ⟨by omega, by omega⟩
  have hmx : max 1 (((s : Int) + 79) / 80) = (need : Int) := by
    rw [← hneed]
    unfold takesN
    omega
  have hmk := make_bytes s (by omega)
  clear hF3 hneed HV3
  go_wp2_with (first | ((with_reducible refine HFr.out.mono ?_); rintro y w' ⟨rfl, rfl⟩))
  go_loopw [9, 10] (fun nv iv wx => ∃ n id : Nat, nv = .int .i64 (n : Int) ∧ iv = .int .i64 (id : Int) ∧ 1 ≤ id ∧ id ≤ 41 ∧ n + 1 ≤ id ∧ n * need ≤ 27 ∧ (n + 1 = id ∨ 27 < n * need + need) ∧ Hid (Fills w vp d need n id wx)) (fun _ iv _ => 41 - (intOf iv).toNat)
  case atStart => exact ⟨0, 1, rfl, rfl, by omega, by omega, by omega, by omega, .inl rfl, HF3⟩
  case round =>
    obtain ⟨n, id, rfl, rfl, h1, h41, hn, hle, hor, HF⟩ := hrel
    clear HF3 hw1 hmx
    obtain ⟨M, hM⟩ : ∃ M, n * need = M := ⟨_, rfl⟩
    have hM2 : (n : Int) * (need : Int) = (M : Int) := by rw [← hM]; simp
    rw [hM] at hle hor
    have hwM : IntKind.i64.wrap ((n : Int) * (need : Int)) = (M : Int) := by rw [hM2]; exact wrap_fits ⟨by omega, by omega⟩
    have hwA : IntKind.i64.wrap (27 - (M : Int)) = 27 - (M : Int) := wrap_fits ⟨by omega, by omega⟩
    have hdiv : n ≤ 27 := by
      rcases Nat.lt_or_ge 27 n with q | q
      · have := Nat.mul_le_mul q hn9.1
        omega
      · exact q
    by_cases hlt : id ≤ 40
    · have OA : Old wr (wr.alloc (.cells (cells (zeros s)).toArray 5)) := (Touch.refl _ wr).alloc _
      have KA := Blk.new wr 5 (cells (zeros s))
      have HP := Lib.hid ((HF.out.old OA).put (c := s) h1 hlt HNd.out (by omega) (blk_has (zeros_byte s) KA))
      rw [hM] at HP
      have i40 : (id : Int) ≤ 40 := by omega
      have hwn : IntKind.i64.wrap ((n : Int) + 1) = (n : Int) + 1 := wrap_fits ⟨by omega, by omega⟩
      have hwi : IntKind.i64.wrap ((id : Int) + 1) = (id : Int) + 1 := wrap_fits ⟨by omega, by omega⟩
      clear OA KA HF
      go_wp2_with fail
      refine HP.out.mono ?_
      rintro y w4 (⟨hfull, rfl, F4⟩ | ⟨hfit, rfl, F4⟩)
      · have g1 : ¬ (need : Int) ≤ 27 - (M : Int) := by omega
        have HF4 := Lib.hid F4
        clear F4 HP
        go_wp2_with fail
        exact ⟨⟨n, id + 1, rfl, by go_num, by omega, by omega, by omega, by omega, .inr (by omega), HF4⟩, by simp [intOf]; omega⟩
      · have g1 : (need : Int) ≤ 27 - (M : Int) := by omega
        have hM1 : (n + 1) * need = M + need := by rw [Nat.succ_mul, hM]
        have HF4 := Lib.hid F4
        have HM1 := Lib.hid hM1
        have HOr := Lib.hid hor
        clear F4 HP hM1 hor
        go_wp2_with fail
        have hM1 := HM1.out
        have hor := HOr.out
        exact ⟨⟨n + 1, id + 1, by go_num, by go_num, by omega, by omega, by omega, by omega, .inl (by omega), HF4⟩, by simp [intOf]; omega⟩
    · obtain rfl : id = 41 := by omega
      rw [show ((41 : Nat) : Int) = 41 from rfl]
      have hgt : 27 < M + need := by
        rcases hor with e | e
        · omega
        · exact e
      have hQn : 27 / need = n := Nat.div_eq_of_lt_le (by rw [hM]; exact hle) (by rw [Nat.succ_mul, hM]; exact hgt)
      have hQ : (27 : Int) / (need : Int) = (n : Int) := by rw [← hQn]; simp
      have hQ' : Int.tdiv 27 (need : Int) = (n : Int) := by rw [← hQn]; simp [Int.tdiv]
      have hnz : ¬ (need : Int) = 0 := by omega
      have hmin : min 40 (n : Int) = (n : Int) := by omega
      have hFr : Calls Tryz.prog 34 #[.pointer (some ⟨vp, 0, none⟩)] wr fun y w' => y = .returned (.int .i64 (27 - (M : Int))) ∧ wr = w' := by
        have := HF.out.free
        rw [hM, show ((27 - M : Nat) : Int) = 27 - (M : Int) by omega] at this
        exact this
      have HFr2 := Lib.hid hFr
      obtain ⟨lp1, x1, rs1, hFR⟩ := HF.out
      have HId := Lib.hid hFR.ids
      have HFR := Lib.hid hFR
      clear hFr hFR hQn hor hgt hmk
      go_upto_region 20 with (first
        | ((with_reducible refine HFr2.out.mono ?_); rintro y w' ⟨rfl, rfl⟩)
        | ((with_reducible refine HId.out.mono ?_); rintro y w5 ⟨pi, ci, rfl, hci, Ii, hli, O5⟩
           have HF5 : Hid (Fills w vp d need n 41 w5) := Fills.old ⟨lp1, x1, rs1, HFR.out⟩ O5
           clear hci Ii hli O5 HId HFR))
      have hn27 : n ≤ 27 := hdiv
      clear hQ hQ' hnz hmin hM hM2 hwM hwA hdiv hle hn HF HFr2
      go_wp2_with fail
      go_loopw [9, 12] (fun nv iv wx => ∃ n i : Nat, nv = .int .i64 (n : Int) ∧ iv = .int .i64 (i : Int) ∧ n ≤ 27 ∧ i ≤ 27 - n ∧ Hid (Fills w vp d need n 41 wx)) (fun nv _ _ => (intOf nv).toNat)
      case atStart => exact ⟨n, 0, rfl, rfl, hn27, by omega, HF5⟩
      case round =>
        obtain ⟨n2, i2, rfl, rfl, hn2, hi2, HF2⟩ := hrel
        clear HF5
        by_cases hz : n2 = 0
        · subst hz
          have hF := HF2.out
          have hFr : Calls Tryz.prog 34 #[.pointer (some ⟨vp, 0, none⟩)] wr fun y w' => y = .returned (.int .i64 27) ∧ wr = w' := by
            have := hF.free
            rw [Nat.zero_mul] at this
            exact this
          have HFr3 := Lib.hid hFr
          obtain ⟨lp1, x1, rs1, hFR⟩ := hF
          have HId2 : Hid (Calls Tryz.prog 31 #[.pointer (some ⟨vp, 0, none⟩)] wr fun y w' => ∃ p c, y = .returned (.slice p 0 c) ∧ 0 ≤ c ∧ Its w' p (idsTo rs1 41) ∧ (idsTo rs1 41).length = 0 ∧ Old wr w') := hFR.ids
          have HO0 : Hid (Old w wr) := hFR.1.sail.old0
          clear hFr hFR
          go_wp2_with (first
            | ((with_reducible refine HFr3.out.mono ?_); rintro y w' ⟨rfl, rfl⟩)
            | ((with_reducible refine HId2.out.mono ?_); rintro y w6 ⟨pi, ci, rfl, _, _, _, O6⟩
               have HO6 := Lib.hid (HO0.out.trans O6)
               clear O6))
          go_ret
          exact ⟨rfl, HO6.out.below (Nat.le_refl _) (fun _ _ q => q)⟩
        · obtain ⟨lp1, x1, rs1, hFR⟩ := HF2.out
          have HFR := Lib.hid hFR
          have HId2 := Lib.hid hFR.ids
          have HO0 : Hid (Old w wr) := hFR.1.sail.old0
          have hz1 : (0 : Int) < (n2 : Int) := by omega
          clear hFR HF2
          go_upto_region 26 with (first
            | ((with_reducible refine HId2.out.mono ?_); rintro y w5 ⟨pi, ci, rfl, hci, Ii, hli, O5⟩
               have HCi := Lib.hid hci
               have HIt := Lib.hid Ii
               have HIl := Lib.hid hli
               have HFR5 : Hid (FR w vp d need n2 41 lp1 x1 rs1 w5) := ⟨HFR.out.1.old O5, HFR.out.2⟩
               have HO5 := Lib.hid (HO0.out.trans O5)
               clear hci Ii hli O5 HId2 HFR HO0))
          by_cases hil : i2 < len
          · obtain ⟨bo, oo, rfl, hco⟩ := (HI.out.old HO5.out).cell i2 (by rw [HLn.out]; exact hil)
            have l0 : (0 : Int) ≤ (i2 : Int) := by omega
            have l1 : (i2 : Int) < (len : Int) := by omega
            have HPk := Lib.hid (pick_big (ys.getD i2 0) (n2 : Int) (by omega) (by omega) w5)
            generalize ys.getD i2 0 = yv at *
            go_upto_region 29 with fail
            refine HPk.out.mono ?_
            rintro y w' ⟨k, hk, rfl, rfl⟩
            have k1 : (k : Int) < (n2 : Int) := hk
            obtain ⟨idk, hidk⟩ := get_of_lt (l := idsTo rs1 41) (n := k) (by rw [HIl.out]; omega)
            obtain ⟨bi, oi, rfl, hci⟩ := HIt.out.cell hidk
            have HDr := Lib.hid (HFR5.out.drop (mem_of_get hidk))
            have k0 : (0 : Int) ≤ (k : Int) := by omega
            have hwn : IntKind.i64.wrap ((n2 : Int) - 1) = (n2 : Int) - 1 := wrap_fits ⟨by omega, by omega⟩
            have hwi : IntKind.i64.wrap ((i2 : Int) + 1) = (i2 : Int) + 1 := wrap_fits ⟨by omega, by omega⟩
            clear hidk
            go_wp2_with (first
              | ((with_reducible refine HDr.out.mono ?_); rintro y w7 ⟨rfl, _, F7⟩
                 have HF7 := Lib.hid F7
                 clear F7))
            exact ⟨⟨n2 - 1, i2 + 1, by go_num, by go_num, by omega, by omega, HF7⟩, by simp [intOf]; omega⟩
          · have l1 : ¬ (i2 : Int) < (len : Int) := by omega
            go_upto_region 29 with fail
            obtain ⟨idk, hidk⟩ := get_of_lt (l := idsTo rs1 41) (n := 0) (by rw [HIl.out]; omega)
            obtain ⟨bi, oi, rfl, hci⟩ := HIt.out.cell hidk
            rw [Nat.add_zero] at hci
            have HDr := Lib.hid (HFR5.out.drop (mem_of_get hidk))
            have k1 : (0 : Int) < (n2 : Int) := hz1
            have hwn : IntKind.i64.wrap ((n2 : Int) - 1) = (n2 : Int) - 1 := wrap_fits ⟨by omega, by omega⟩
            have hwi : IntKind.i64.wrap ((i2 : Int) + 1) = (i2 : Int) + 1 := wrap_fits ⟨by omega, by omega⟩
            clear hidk
            go_wp2_with (first
              | ((with_reducible refine HDr.out.mono ?_); rintro y w7 ⟨rfl, _, F7⟩
                 have HF7 := Lib.hid F7
                 clear F7))
            exact ⟨⟨n2 - 1, i2 + 1, by go_num, by go_num, by omega, by omega, HF7⟩, by simp [intOf]; omega⟩
end Go.Proofs.YtjajenkagcdhlaaGreat
