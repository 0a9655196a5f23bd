/- The walk of lariatlaw4.DrumTurns. -/
import Derived.Test.YthbkhhcijekplaaTurnsA
namespace Go.Proofs.Ythbkhhcijekplaa
open Go.RowKit

set_option maxRecDepth 100000 in
set_option maxHeartbeats 64000000 in
theorem turns_law (tracks : Int) (al : Option Addr) (len cap : Nat) (w : World) (hT : HasT w al len) :
    Calls Try.prog 4 #[.int .i64 tracks, .slice al len cap] w fun e w' => e = .returned (.bool true) ∧ Below w.heap.size w w' := by
  have hn := hnot
  have HT := Lib.hid hT
  clear hT
  go_enter Try.func4, Try.ntmps4
  go_wp2_with fail
  refine (known_any _).mono ?_
  rintro e w1 ⟨rfl, O1⟩
  have HO1 := Lib.hid O1
  clear O1
  go_wp2_with fail
  refine (pick_any tracks 10 (by omega) (by omega) _).mono ?_
  rintro e w' ⟨q0, hq0, rfl, rfl⟩
  go_wp2_with fail
  have e1 : (10 + (q0 : Int)) = ((10 + q0 : Nat) : Int) := by omega
  rw [e1]
  have htr : 10 ≤ 10 + q0 := by omega
  have htr2 : 10 + q0 ≤ 19 := by omega
  generalize 10 + q0 = tr at *
  clear e1
  refine (new_st (w0 := w) tr htr (by omega) HO1.out).mono ?_
  rintro e w2 ⟨d, b2, rfl, S2, _⟩
  have HS2 := Lib.hid S2
  clear S2 HO1
  go_wp2_with fail
  refine (known_any _).mono ?_
  rintro e w3 ⟨rfl, O3⟩
  have HS3 := Lib.hid (HS2.out.step O3)
  clear O3 HS2
  go_wp2_with fail
  refine (rnew_any tr (by omega) w w3 HS3.out.old.size).mono ?_
  rintro e w4 ⟨r, rfl, R4, O4⟩
  have HS4 : Hid (TSt w d r tr 0 w4) := ⟨b2, _, HS3.out.step O4, R4, by simp [DS.new], Nat.le_refl _⟩
  clear R4 O4 HS3
  go_wp2_with fail
  go_loopw [8] (fun i wx => ∃ k : Nat, k ≤ 50 ∧ i = .int .i64 k ∧ Hid (TSt w d r tr k wx)) (fun i _ => 51 - (intOf i).toNat)
  case atStart => exact ⟨0, by omega, rfl, HS4⟩
  case round =>
    obtain ⟨i, hi, rfl, HS⟩ := hrel
    clear HS4
    by_cases hgo : i < len ∧ i < 50
    · obtain ⟨hi1, hi2⟩ := hgo
      have h1' : (i : Int) < (len : Int) := by omega
      have h2' : (i : Int) < 50 := by omega
      have h0' : (0 : Int) ≤ (i : Int) := by omega
      obtain ⟨b5, D5, S5, R5, hl5, ht5⟩ := HS.out.ex
      obtain ⟨bb, off, x, rfl, hx0⟩ := HT.out i hi1
      have hx := hx0.old S5.old
      have HXK := Lib.hid hx0.keep
      clear hx0
      have c0 := hx.c0
      have c1 := hx.c1
      have c2 := hx.c2
      have c3 := hx.c3
      have c4 := hx.c4
      have c5 := hx.c5
      have HX := Lib.hid hx
      have HS5 := Lib.hid S5
      have HR5 := Lib.hid R5
      have HL5 := Lib.hid hl5
      have HT5 := Lib.hid ht5
      clear hx HS S5 R5 hl5 ht5
      go_wp2_with fail
      have HK6 : Hid (Blk (wr.alloc (.cells #[.int .i64 x.what, .int .i64 x.k, .int .i64 x.n, .int .i64 x.cut, .slice x.ba x.bl x.bc, .slice x.ka x.kl x.kc] 44)) wr.heap.size 44 [.int .i64 x.what, .int .i64 x.k, .int .i64 x.n, .int .i64 x.cut, .slice x.ba x.bl x.bc, .slice x.ka x.kl x.kc]) := Blk.new wr 44 _
      have HO6 : Hid (Old wr (wr.alloc (.cells #[.int .i64 x.what, .int .i64 x.k, .int .i64 x.n, .int .i64 x.cut, .slice x.ba x.bl x.bc, .slice x.ka x.kl x.kc] 44))) := (Touch.refl _ _).alloc _
      have HS6 := Lib.hid (HS5.out.step HO6.out)
      have HR6 := Lib.hid (HR5.out.old HO6.out)
      have HB6 := Lib.hid (HX.out.bytes.old HO6.out)
      have HP6 := Lib.hid (HX.out.keep.old HO6.out)
      have HBl := Lib.hid HX.out.blen
      have HKl := Lib.hid HX.out.klen
      have hsm := HX.out.small
      clear c0 c1 c2 c3 c4 c5 HX HS5 HR5 HO6
      generalize wr.alloc (.cells #[.int .i64 x.what, .int .i64 x.k, .int .i64 x.n, .int .i64 x.cut, .slice x.ba x.bl x.bc, .slice x.ka x.kl x.kc] 44) = w6 at *
      generalize wr.heap.size = xb at *
      have c0 : w6.cell? ⟨xb, 0, none⟩ = some (.int .i64 x.what) := HK6.out.cell 0
      have c1 : w6.cell? ⟨xb, 1, none⟩ = some (.int .i64 x.k) := HK6.out.cell 1
      have c2 : w6.cell? ⟨xb, 2, none⟩ = some (.int .i64 x.n) := HK6.out.cell 2
      have c3 : w6.cell? ⟨xb, 3, none⟩ = some (.int .i64 x.cut) := HK6.out.cell 3
      have c4 : w6.cell? ⟨xb, 4, none⟩ = some (.slice x.ba x.bl x.bc) := HK6.out.cell 4
      have c5 : w6.cell? ⟨xb, 5, none⟩ = some (.slice x.ka x.kl x.kc) := HK6.out.cell 5
      refine (pick_any x.k ((tr : Int) + 2) (by omega) (by omega) _).mono ?_
      rintro e w' ⟨k1, hk1, rfl, rfl⟩
      go_upto_block 2 with (first | (go_at_call 21; refine (pick_any x.what 9 (by omega) (by omega) _).mono ?_; rintro e w' ⟨q1, hq1, rfl, rfl⟩))
      go_cut [11] (fun v wx => v = .bool true ∧ Hid (TSt w d r tr (i + 1) wx))
      case first =>
        have HT9 : D5.turns ≤ 99999 := Nat.le_trans HT5.out (by omega)
        have hq : q1 = 6 ∨ q1 = 7 ∨ q1 = 8 ∨ ((q1 : Int) ≠ 6 ∧ (q1 : Int) ≠ 7 ∧ (q1 : Int) ≠ 8) := by omega
        rcases hq with rfl | rfl | rfl | ⟨hq6, hq7, hq8⟩
        · as_aux_lemma =>
            clear hq1
            go_wp2_with fail
            refine (settle_st HS6.out HT9).mono ?_
            rintro e w7 ⟨rfl, N7⟩
            have HN7 := Lib.hid N7
            clear N7
            go_wp2_with fail
            refine (rsettle_any (HR6.out.kept HN7.out.2.1) HS6.out.dr.ok HT9 (Nat.le_trans HS6.out.old.size HN7.out.2.2)).mono ?_
            rintro e w8 ⟨rfl, N8⟩
            have HE : Hid (TSt w d r tr (i + 1) w8) := TSt.next HN7.out N8 (by rw [settle_len]; exact HL5.out) (Nat.le_trans (settle_turns _) (Nat.succ_le_succ HT5.out))
            clear N8
            go_wp2_with fail
            go_meet
            exact ⟨rfl, HE⟩
        · as_aux_lemma =>
            clear hq1
            have HI1 : Hid (St w d b5 D5 w6 ∧ Rs w r D5 w6 ∧ w6.ownsRow w.heap.size 3 1 (.slice none 0 0) 0 (intsI []) ∧ Blk w6 xb 44 [.int .i64 x.what, .int .i64 x.k, .int .i64 x.n, .int .i64 x.cut, .slice x.ba x.bl x.bc, .slice x.ka x.kl x.kc]) := ⟨HS6.out, HR6.out, World.ownsRow_nil _ _ _ _, HK6.out⟩
            go_wp2_with fail
            refine (pick_any x.n 12 (by omega) (by omega) _).mono ?_
            rintro e w' ⟨k2, hk2, rfl, rfl⟩
            go_wp2_with fail
            refine (pick_any x.cut 110 (by omega) (by omega) _).mono ?_
            rintro e w' ⟨k3, hk3, rfl, rfl⟩
            clear c0 c1 c2 c3 c4 c5
            go_wp2_with fail
            go_loopw [14, 15] (fun v i2 wx => ∃ j : Nat, j ≤ 8 ∧ j ≤ x.kl ∧ i2 = .int .i64 j ∧ Hid (∃ l : List Int, l.length = j ∧ St w d b5 D5 wx ∧ Rs w r D5 wx ∧ wx.ownsRow w.heap.size 3 1 v j (intsI l) ∧ Blk wx xb 44 [.int .i64 x.what, .int .i64 x.k, .int .i64 x.n, .int .i64 x.cut, .slice x.ba x.bl x.bc, .slice x.ka x.kl x.kc])) (fun _ i2 _ => 9 - (intOf i2).toNat)
            case atStart => exact ⟨0, by omega, by omega, rfl, ⟨[], rfl, HI1.out⟩⟩
            case round =>
              obtain ⟨j, hj8, hjk, rfl, HI⟩ := hrel
              clear HI1 HS6 HR6 HB6 HP6 HK6
              obtain ⟨l, hll, S8, R8, u8, k8⟩ := HI.out
              have c5 : wr.cell? ⟨xb, 5, none⟩ = some (.slice x.ka x.kl x.kc) := k8.cell 5
              clear HI
              by_cases hgo : j < x.kl ∧ j < 8
              · obtain ⟨hg1, hg2⟩ := hgo
                obtain ⟨gk, ok, hak, hck⟩ := (HXK.out.old S8.old).cell j (by rw [HKl.out]; exact hg1)
                have hg1' : (j : Int) < (x.kl : Int) := by omega
                have hg2' : (j : Int) < 8 := by omega
                have hg0' : (0 : Int) ≤ (j : Int) := by omega
                have HI8 := Lib.hid (⟨S8, R8, u8, k8⟩ : _ ∧ _ ∧ _ ∧ _)
                clear S8 R8 u8 k8
                rw [hak] at c5
                clear hak
                obtain ⟨kv, hkv⟩ : ∃ kv, wr.cell? ⟨gk, ok + j, none⟩ = some (.int .i64 kv) := ⟨_, hck⟩
                clear hck
                go_wp2_with fail
                refine (pick_any kv 12 (by omega) (by omega) _).mono ?_
                rintro e w' ⟨k4, hk4, rfl, rfl⟩
                obtain ⟨S8, R8, u8, k8⟩ := HI8.out
                obtain ⟨vt8, va8, a8⟩ := R8.ex
                obtain ⟨a9, c9, a10, c10, w10, rfl, hap, own10, hkeep⟩ := ints_append S8.old.size u14 j l ((k4 : Int) - 1) u8 (by omega)
                have HN10 : Hid (St w d b5 D5 w10 ∧ Rs w r D5 w10 ∧ w10.ownsRow w.heap.size 3 1 (.slice a10 (j + 1) c10) (j + 1) (intsI (l ++ [(k4 : Int) - 1])) ∧ Blk w10 xb 44 [.int .i64 x.what, .int .i64 x.k, .int .i64 x.n, .int .i64 x.cut, .slice x.ba x.bl x.bc, .slice x.ka x.kl x.kc]) := ⟨hkeep.1 _ _ _ S8, ⟨R8.lo, _, _, hkeep.2.1 _ _ _ _ R8.lo a8⟩, own10, hkeep.2.2 _ _ k8⟩
                clear S8 R8 u8 k8 a8 own10 hkeep HI8
                go_wp2_with (first | (at_builtin; refine wpList_append_run (o := ⟨some 132, _, 30, _, _, _⟩) rfl (.tmp 123) (.tmp 131) 30 30 rfl (.slice a9 j c9) (.slice (some ⟨wr.heap.size, 0, none⟩) 1 1) rfl rfl _ _ hap ?_))
                exact ⟨⟨j + 1, by omega, by omega, by go_num, ⟨l ++ [(k4 : Int) - 1], by simp [hll], HN10.out⟩⟩, by simp [intOf]; omega⟩
              · obtain ⟨a9, c9, rfl⟩ := int_form u8
                have HU8 := Lib.hid u8
                have HS8 := Lib.hid S8
                have HR8 := Lib.hid R8
                have HIn := Lib.hid (intsI_has hll u8)
                clear u8 S8 R8 k8
                have hgo' : ¬ (j : Int) < (x.kl : Int) ∨ ((j : Int) < (x.kl : Int) ∧ ¬ (j : Int) < 8) := by omega
                rcases hgo' with hg1 | ⟨hg1, hg2⟩
                all_goals
                  go_wp2_with fail
                  refine (fall_st HS8.out (by omega) a9 l j c9 _ _ HIn.out hll (by omega)).mono ?_
                  rintro e w9 ⟨rfl, N9⟩
                  have HN9 := Lib.hid N9
                  clear N9
                  go_wp2_with fail
                  refine (rfall_any (HR8.out.kept HN9.out.2.1) HS8.out.dr.ok (by omega) (Nat.le_trans HS8.out.old.size HN9.out.2.2) a9 l j c9 _ _ hll (by omega) (fun _ m => ints_stay hll HU8.out HN9.out.2.1 m)).mono ?_
                  rintro e w10 ⟨rfl, N10⟩
                  have HE : Hid (TSt w d r tr (i + 1) w10) := TSt.next HN9.out N10 (by simp only [DS.fall]; rw [falls_length]; exact HL5.out) (Nat.le_succ_of_le HT5.out)
                  clear N10
                  go_wp2_with fail
                  go_meet
                  exact ⟨rfl, HE⟩
        · as_aux_lemma =>
            clear hq1
            go_wp2_with fail
            refine (pick_any x.n 9 (by omega) (by omega) _).mono ?_
            rintro e w' ⟨k2, hk2, rfl, rfl⟩
            go_wp2_with fail
            refine (break_st HS6.out _ (by omega)).mono ?_
            rintro e w7 ⟨rfl, N7⟩
            have HN7 := Lib.hid N7
            clear N7
            go_wp2_with fail
            refine (rbreak_any (HR6.out.kept HN7.out.2.1) _ (by omega) (by omega)).mono ?_
            rintro e w8 ⟨rfl, N8⟩
            have HE : Hid (TSt w d r tr (i + 1) w8) := TSt.next HN7.out N8 HL5.out (Nat.le_succ_of_le HT5.out)
            clear N8
            go_wp2_with fail
            go_meet
            exact ⟨rfl, HE⟩
        · as_aux_lemma =>
            have hmm := hsm.1
            have e6 : ((q1 : Int) == 6) = false := by simp; omega
            have e7 : ((q1 : Int) == 7) = false := by simp; omega
            have e8 : ((q1 : Int) == 8) = false := by simp; omega
            clear hq6 hq7 hq8 hq1
            obtain ⟨g8, c8, w8, hap8, hg8, G8, O8⟩ := append_new w6.drew x.ba x.bs x.bl x.bc (HB6.out.old (Touch.refl _ _).drew) HBl.out (by omega)
            have HL8 : Hid (Brought w6 g8 c8 x.bs w8) := ⟨G8, hg8, (Touch.refl _ _).drew.trans O8⟩
            clear G8 O8 hg8
            go_upto_region 15 with fail
            go_cut [17] (fun v wx => Hid (∃ g c, v = .slice (some ⟨g, 0, none⟩) (x.bl + 96) c ∧ Brought w6 g c (x.bs ++ same (byteOf x.n)) wx))
            case first =>
              as_aux_lemma =>
                have hsb := (same_trk (byteOf_lt x.n)).byte
                have hsl := (same_trk (byteOf_lt x.n)).len
                have c4d : (w6.alloc (.cells #[] 5)).drew.cell? ⟨xb, 4, none⟩ = some (.slice x.ba x.bl x.bc) := (HK6.out.touch ((Touch.refl (fun _ => False) _).alloc _) (fun q => q)).cell 4
                have c4e : (w6.alloc (.cells #[] 5)).cell? ⟨xb, 4, none⟩ = some (.slice x.ba x.bl x.bc) := c4d
                have c2d : (w6.alloc (.cells #[] 5)).drew.cell? ⟨xb, 2, none⟩ = some (.int .i64 x.n) := (HK6.out.touch ((Touch.refl (fun _ => False) _).alloc _) (fun q => q)).cell 2
                have c2e : (w6.alloc (.cells #[] 5)).cell? ⟨xb, 2, none⟩ = some (.int .i64 x.n) := c2d
                have c2f : w8.cell? ⟨xb, 2, none⟩ = some (.int .i64 x.n) := (HK6.out.touch HL8.out.old (fun q => q)).cell 2
                go_region_law (first
                  | (refine step_append rfl (.tmp 74) (.tmp 77) 28 28 rfl (.slice (some ⟨_, 0, none⟩) x.bl _) (.slice (some ⟨_, 0, none⟩) 96 96) rfl rfl _ _ (hap9 28) ?_)
                  | (refine step_append rfl (.tmp 71) (.tmp 73) 28 28 rfl (.slice (some ⟨_, 0, none⟩) 0 0) (.slice x.ba x.bl x.bc) rfl rfl _ _ (hapL 28) ?_)
                  | (refine step_append rfl (.tmp 71) (.tmp 73) 28 28 rfl (.slice (some ⟨_, 0, none⟩) 0 0) (.slice x.ba x.bl x.bc) rfl rfl _ _ (hap8 28) ?_)
                  | (refine step_wanted rfl ?_; go_simp; refine (all_any x.n _).mono ?_; rintro e w7 ⟨rfl, K7, O7⟩; (try have c4f : w7.cell? ⟨xb, 4, none⟩ = some (.slice x.ba x.bl x.bc) := (HK6.out.touch ((Touch.refl (fun _ => False) _).drew.trans O7) (fun q => q)).cell 4); (try have c4g : (w7.alloc (.cells #[] 5)).cell? ⟨xb, 4, none⟩ = some (.slice x.ba x.bl x.bc) := (HK6.out.touch (((Touch.refl (fun _ => False) _).drew.trans O7).alloc _) (fun q => q)).cell 4); (try have c4h : w7.cell? ⟨xb, 4, none⟩ = some (.slice x.ba x.bl x.bc) := (HK6.out.touch (((Touch.refl (fun _ => False) _).alloc _).drew.trans O7) (fun q => q)).cell 4); (first
                      | (obtain ⟨g9, c9, w9, hap9, L9⟩ := lay_last (w := w6) (W := w7) (g := g8) (c := c8) ⟨HL8.out.grows.kept (Kept.of_old O7), HL8.out.new, HL8.out.old.trans O7⟩ HBl.out hsb hsl hsm.1 K7)
                      | (obtain ⟨gL, cL, wL, hapL, g9, c9, w9, hap9, L9⟩ := lay_late (cap := x.bc) HB6.out HBl.out hsb hsl hsm.1 (by simp) K7 O7)
                      | (obtain ⟨gL, cL, wL, hapL, g9, c9, w9, hap9, L9⟩ := lay_both (cap := x.bc) HB6.out HBl.out hsb hsl hsm.1 K7 ((Touch.refl _ _).drew.trans O7)))))
                all_goals
                  (try go_simp)
                  go_wp2_with fail
                  go_meet
                  exact ⟨g9, c9, rfl, L9⟩
            case rest =>
              as_aux_lemma =>
                obtain ⟨g9, c9, rfl, B9⟩ := hcut.out
                have HB9 := Lib.hid B9
                clear B9 hcut
                have hroom := HB9.out.grows.room
                rw [List.length_append, HBl.out, (same_trk (byteOf_lt x.n)).len] at hroom
                have c3' : wc.cell? ⟨xb, 3, none⟩ = some (.int .i64 x.cut) := (HK6.out.touch HB9.out.old (fun q => q)).cell 3
                have HS9 := Lib.hid (HS6.out.step HB9.out.old)
                have HR9 := Lib.hid (HR6.out.old HB9.out.old)
                clear c0 c1 c2 c3 c4 c5 hap8 HL8 HK6 HS6 HR6 HB6 HP6
                go_wp2_with fail
                refine (pick_any x.cut 40 (by omega) (by omega) _).mono ?_
                rintro e w' ⟨k4, hk4, rfl, rfl⟩
                have hk4' : k4 = 39 ∨ k4 < 39 := by omega
                have hL5 := HL5.out
                rcases hk4' with rfl | hk4'
                · have h95 : (95 : Int) ≤ (c9 : Int) := by omega
                  clear hk4
                  go_wp2_with fail
                  refine (lay_no HS9.out _ _ _ _ (.inr (by omega))).mono ?_
                  rintro e w' ⟨rfl, rfl⟩
                  go_wp2_with fail
                  refine (rlay_no HR9.out _ _ _ _ (.inr (by omega))).mono ?_
                  rintro e w' ⟨rfl, rfl⟩
                  go_wp2_with fail
                  go_meet
                  exact ⟨rfl, b5, D5, HS9.out, HR9.out, hL5, Nat.le_succ_of_le HT5.out⟩
                · have ht4 : Int.tdiv (k4 : Int) 39 = 0 := Int.tdiv_eq_zero_of_lt (by omega) (by omega)
                  have h96 : (96 : Int) ≤ (c9 : Int) := by omega
                  by_cases hk : (k1 : Int) - 1 < 0 ∨ (tr : Int) ≤ (k1 : Int) - 1
                  · go_wp2_with fail
                    refine (lay_no HS9.out _ _ _ _ (.inl (by rw [hL5]; exact hk))).mono ?_
                    rintro e w' ⟨rfl, rfl⟩
                    go_wp2_with fail
                    refine (rlay_no HR9.out _ _ _ _ (.inl (by rw [hL5]; exact hk))).mono ?_
                    rintro e w' ⟨rfl, rfl⟩
                    go_wp2_with fail
                    go_meet
                    exact ⟨rfl, b5, D5, HS9.out, HR9.out, hL5, Nat.le_succ_of_le HT5.out⟩
                  · obtain ⟨n, hn1⟩ := Int.eq_ofNat_of_zero_le (a := (k1 : Int) - 1) (by omega)
                    have hn2 : n < D5.T.length := by omega
                    have hl96 : ((x.bs ++ same (byteOf x.n)).take 96).length = 96 := by rw [List.length_take, List.length_append, (same_trk (byteOf_lt x.n)).len]; omega
                    have HN1 := Lib.hid hn1
                    clear hk hn1
                    generalize (x.bs ++ same (byteOf x.n)) = xs at *
                    go_wp2_with fail
                    have el := lay_any d n b5 D5 wc (some ⟨g9, 0, none⟩) (xs.take 96) c9 HS9.out.dr HT9 hn2 (HB9.out.grows.own.has.take 96) hl96 (fun g' o e => by cases e; exact HS9.out.dr.not_foot HB9.out.grows.blk.choose_spec (by unfold other; decide))
                    rw [← HN1.out] at el
                    refine el.mono ?_
                    clear el
                    rintro e w10 ⟨rfl, D10⟩
                    have HN10 := Lib.hid (HS9.out.next D10)
                    clear D10
                    go_wp2_with fail
                    have er := rlay_any (HR9.out.kept HN10.out.2.1) HS9.out.dr.ok HT9 (Nat.le_trans HS9.out.old.size HN10.out.2.2) n g9 (xs.take 96) c9 hn2 hl96 5 _ (by decide) (HB9.out.grows.kept HN10.out.2.1).blk.choose_spec ((HB9.out.grows.kept HN10.out.2.1).own.has.take 96)
                    rw [← HN1.out] at er
                    refine er.mono ?_
                    clear er
                    rintro e w11 ⟨rfl, N11⟩
                    have HE : Hid (TSt w d r tr (i + 1) w11) := TSt.next HN10.out N11 (by rw [lay_tr]; exact hL5) (Nat.le_trans (lay_turns _ _ _) (Nat.succ_le_succ HT5.out))
                    clear N11
                    go_wp2_with fail
                    go_meet
                    exact ⟨rfl, HE⟩
      case rest =>
        as_aux_lemma =>
          obtain ⟨rfl, HN⟩ := hcut
          clear HS6 HR6 HB6 HP6 HBl HKl HK6 c0 c1 c2 c3 c4 c5 hsm HL5 HT5
          obtain ⟨b7, D7, S7, R7, hl7, ht7⟩ := HN.out.ex
          obtain ⟨vt7, va7, a7⟩ := R7.ex
          obtain ⟨aa, ca, rfl⟩ := rlain_form a7.af
          have HLo := Lib.hid R7.lo
          have HOk := Lib.hid S7.dr.ok
          have HI0 : Hid (St w d b7 D7 wc ∧ RAt w r vt7 (.slice aa D7.A.length ca) D7 wc ∧ wc.ownsRow w.heap.size 3 1 (.slice none 0 0) 0 (intsI (((D7.A.map (·.1)).map fun (x : Nat) => (x : Int)).take 0))) := ⟨S7, a7, World.ownsRow_nil _ _ _ _⟩
          have hm7 : D7.A.length ≤ 1000 := Nat.le_trans S7.dr.ok.long (by omega)
          have HL7 := Lib.hid hl7
          have HT7 := Lib.hid ht7
          clear HN S7 R7 a7 hl7 ht7
          generalize hM : D7.A.length = m at *
          have HM := Lib.hid hM
          clear hM
          go_wp2_with fail
          go_loopw [18, 19] (fun v i wx => ∃ j : Nat, j ≤ m ∧ i = .int .i64 j ∧ Hid (St w d b7 D7 wx ∧ RAt w r vt7 (.slice aa m ca) D7 wx ∧ wx.ownsRow w.heap.size 3 1 v j (intsI (((D7.A.map (·.1)).map fun (x : Nat) => (x : Int)).take j)))) (fun _ i _ => m - (intOf i).toNat)
          case atStart => exact ⟨0, by omega, rfl, HI0⟩
          case round =>
            obtain ⟨j, hj, rfl, HI⟩ := hrel
            clear HI0
            obtain ⟨S8, a8, u8⟩ := HI.out
            have hc1 : wr.cell? ⟨r, 1, none⟩ = some (.slice aa m ca) := a8.head.cell 1
            clear HI
            by_cases hjm : j < m
            · obtain ⟨y, hy⟩ := get_of_lt (l := D7.A) (n := j) (by rw [HM.out]; exact hjm)
              have haf := a8.af
              rw [HM.out] at haf
              obtain ⟨ga, rfl, _, _, _⟩ := row_ptr haf (by omega)
              obtain ⟨hy0, _⟩ := rlain_cells HM.out haf hy
              have hyi : ((D7.A.map (·.1)).map fun (x : Nat) => (x : Int))[j]? = some (y.1 : Int) := by rw [List.getElem?_map, List.getElem?_map, hy]; rfl
              obtain ⟨a9, c9, a10, c10, w10, rfl, hap, own10, hkeep⟩ := ints_append S8.old.size u18 j _ (y.1 : Int) u8 (by omega)
              rw [← take_get hyi] at own10
              have HN10 : Hid (St w d b7 D7 w10 ∧ RAt w r vt7 (.slice (some ⟨ga, 0, none⟩) m ca) D7 w10 ∧ w10.ownsRow w.heap.size 3 1 (.slice a10 (j + 1) c10) (j + 1) (intsI (((D7.A.map (·.1)).map fun (x : Nat) => (x : Int)).take (j + 1)))) := ⟨hkeep.1 _ _ _ S8, hkeep.2.1 _ _ _ _ HLo.out a8, own10⟩
              have hj0 : (0 : Int) ≤ (j : Int) := by omega
              have hj1 : (j : Int) < (m : Int) := by omega
              clear S8 a8 u8 haf hy hyi own10 hkeep
              generalize (y.1 : Int) = yk at *
              go_wp2_with (first | (at_builtin; refine wpList_append_run (o := ⟨some 174, _, 30, _, _, _⟩) rfl (.tmp 164) (.tmp 173) 30 30 rfl (.slice a9 j c9) (.slice (some ⟨wr.heap.size, 0, none⟩) 1 1) rfl rfl _ _ hap ?_))
              exact ⟨⟨j + 1, by omega, by go_num, HN10⟩, by simp [intOf]; omega⟩
            · obtain rfl : j = m := by omega
              have hjj : ¬ (j : Int) < (j : Int) := by omega
              obtain ⟨a9, c9, rfl⟩ := int_form u8
              have hup := intsI_has (by rw [List.length_take, List.length_map, List.length_map, HM.out]; omega) u8
              rw [List.take_of_length_le (by rw [List.length_map, List.length_map, HM.out]; exact Nat.le_refl _)] at hup
              have HUp := Lib.hid hup
              have HS8 := Lib.hid S8
              have HA8 := Lib.hid a8
              clear hup u8 S8 a8
              go_wp2_with fail
              have hc3 : wr.cell? ⟨r, 3, none⟩ = some (.bool D7.down) := HA8.out.head.cell 3
              have hc4 : wr.cell? ⟨r, 4, none⟩ = some (.int .i64 (D7.turns : Int)) := HA8.out.head.cell 4
              have HSd : Hid (St w d b7 D7 wr.drew) := HS8.out.step (Touch.refl _ _).drew
              have HUd := Lib.hid (HUp.out.old (Touch.refl _ wr).drew)
              have HOd : Hid (Old wr wr.drew) := (Touch.refl _ _).drew
              have HUl : Hid (((D7.A.map (·.1)).map fun (x : Nat) => (x : Int)).length = j) := by show _ = _; rw [List.length_map, List.length_map]; exact HM.out
              go_cut [201] (fun v wx => v = .bool false ∧ Hid (Old wr wx))
              case first =>
                as_aux_lemma =>
                  obtain ⟨dn, hdn⟩ : ∃ dn, D7.down = dn := ⟨_, rfl⟩
                  rw [hdn] at hc3
                  have Hdn := Lib.hid hdn
                  clear hdn
                  have HC0 : Hid (wr.cell? ⟨r, 3, none⟩ = some (.bool dn) ∧ wr.cell? ⟨r, 4, none⟩ = some (.int .i64 (D7.turns : Int))) := ⟨hc3, hc4⟩
                  have HRl := Lib.hid (lt_of_cell? hc3)
                  clear hc3 hc4
                  all_goals
                    go_region_held3 (fun w' => w'.cell? ⟨r, 3, none⟩ = some (.bool dn) ∧ w'.cell? ⟨r, 4, none⟩ = some (.int .i64 (D7.turns : Int))) (first | exact HC0.out | exact HC9.out | exact HC10.out)
                      (first
                      | (go_at_call 17; refine (broken_any d b7 D7 _ _ HSd.out.dr.at_).mono ?_; rintro e w' ⟨rfl, rfl⟩; rw [Hdn.out])
                      | (go_at_call 19; refine (turns_any d b7 D7 _ _ HSd.out.dr.at_).mono ?_; rintro e w' ⟨rfl, rfl⟩)
                      | (go_at_call 12; refine (afloat_any d b7 D7 _ _ HSd.out.dr.at_ HOk.out (Nat.le_trans HT7.out (by omega))).mono ?_; rintro e w9 ⟨rfl, K9, O9⟩; rw [HM.out]; have HU9 := Lib.hid (blk_ints K9); have HV9 := Lib.hid (HUd.out.old O9); have HO9 := Lib.hid (HOd.out.trans O9); have HC9 := Lib.hid (And.intro ((HO9.out.cell (p := ⟨r, 3, none⟩) HRl.out (fun q => q)).trans HC0.out.1) ((HO9.out.cell (p := ⟨r, 4, none⟩) HRl.out (fun q => q)).trans HC0.out.2)); clear K9 O9)
                      | (go_at_call 18; refine (same_ints _ _ _ j _ _ w9 HU9.out HV9.out HUl.out (by omega)).mono ?_; rintro e w10 ⟨rfl, O10⟩; have HO10 := Lib.hid (HO9.out.trans O10); have HC10 := Lib.hid (And.intro ((HO10.out.cell (p := ⟨r, 3, none⟩) HRl.out (fun q => q)).trans HC0.out.1) ((HO10.out.cell (p := ⟨r, 4, none⟩) HRl.out (fun q => q)).trans HC0.out.2)); clear O10))
                    all_goals (go_wp2_with fail; go_meet; exact ⟨rfl, HO10⟩)
              case rest =>
                as_aux_lemma =>
                  obtain ⟨rfl, HO⟩ := hcut
                  have HI9 : Hid (St w d b7 D7 wc ∧ Rs w r D7 wc) := ⟨HS8.out.step HO.out, HLo.out, _, _, HA8.out.old HO.out HLo.out⟩
                  clear hc3 hc4 HSd HUd HOd HUl HUp HS8 HA8 HO
                  go_wp2_with fail
                  go_loopw [20] (fun v wx => ∃ j : Nat, j ≤ tr + 2 ∧ v = .int .i64 ((j : Int) - 1) ∧ Hid (St w d b7 D7 wx ∧ Rs w r D7 wx)) (fun v _ => tr + 2 - (intOf v + 1).toNat)
                  case atStart => exact ⟨0, by omega, rfl, HI9⟩
                  case round =>
                    obtain ⟨jj, hjj2, rfl, HI⟩ := hrel
                    clear HI9
                    generalize hz : (jj : Int) - 1 = z at *
                    by_cases hjt : z ≤ (tr : Int)
                    · by_cases harg : z < 0 ∨ (tr : Int) ≤ z
                      · have HL := HL7.out
                        go_wp2_with fail
                        refine (look_arg d z b7 D7 _ _ HI.out.1.dr.at_ (by rw [HL]; exact harg)).mono ?_
                        rintro e w' ⟨rfl, rfl⟩
                        go_wp2_with fail
                        refine (rlook_arg HI.out.2 z (by rw [HL]; exact harg)).mono ?_
                        rintro e w' ⟨rfl, rfl⟩
                        have hs0 := str_any wr none [] 0 0 (Has.nil _ _) rfl
                        generalize strOf [] = Y at *
                        go_wp2_with fail
                        go_loopw [231] (fun v wx => v = .int .i64 0 ∧ Hid (St w d b7 D7 wx ∧ Rs w r D7 wx)) (fun _ _ => 0)
                        case atStart => exact ⟨rfl, HI⟩
                        case round =>
                          obtain ⟨rfl, HJ⟩ := hrel
                          go_wp2_with fail
                          exact ⟨⟨jj + 1, by omega, by rw [show z + 1 = ((jj + 1 : Nat) : Int) - 1 by omega], HJ⟩, by simp [intOf]; omega⟩
                      · obtain ⟨k, rfl⟩ := Int.eq_ofNat_of_zero_le (a := z) (by omega)
                        have HKl : Hid (k < D7.T.length) := by show _ < _; rw [HL7.out]; omega
                        clear harg
                        by_cases hdn : D7.down = true
                        · have HDn := Lib.hid hdn
                          clear hdn
                          go_wp2_with fail
                          refine (look_down d k b7 D7 _ _ HI.out.1.dr.at_ HKl.out HDn.out).mono ?_
                          rintro e w' ⟨rfl, rfl⟩
                          go_wp2_with fail
                          refine (rlook_down HI.out.2 k HKl.out HDn.out).mono ?_
                          rintro e w' ⟨rfl, rfl⟩
                          have hs0 := str_any wr none [] 0 0 (Has.nil _ _) rfl
                          generalize strOf [] = Y at *
                          go_wp2_with fail
                          go_loopw [231] (fun v wx => v = .int .i64 0 ∧ Hid (St w d b7 D7 wx ∧ Rs w r D7 wx)) (fun _ _ => 0)
                          case atStart => exact ⟨rfl, HI⟩
                          case round =>
                            obtain ⟨rfl, HJ⟩ := hrel
                            go_wp2_with fail
                            exact ⟨⟨jj + 1, by omega, by rw [show (k : Int) + 1 = ((jj + 1 : Nat) : Int) - 1 by omega], HJ⟩, by simp [intOf]; omega⟩
                        · have HDn := Lib.hid (Bool.eq_false_iff.2 hdn)
                          clear hdn
                          go_wp2_with fail
                          refine (look_st HI.out.1 k HKl.out HDn.out).mono ?_
                          rintro e w5 ⟨g5, rfl, hg5, K5, O5⟩
                          have HK5 := Lib.hid K5
                          have HO5 := Lib.hid O5
                          have HG5 : Hid (w.heap.size ≤ g5) := Nat.le_trans HI.out.1.old.size hg5
                          clear K5 O5 hg5
                          go_wp2_with fail
                          refine (rlook_ok (HI.out.2.old HO5.out) HOk.out (Nat.le_trans HT7.out (by omega)) k HKl.out HDn.out).mono ?_
                          rintro e w6 ⟨a6, c6, rfl, H6, O6⟩
                          obtain ⟨xs, hxs⟩ := get_of_lt (l := D7.seen) (n := k) (by rw [DS.seen_length]; exact HKl.out)
                          have HX := Lib.hid (DS.seen_trk HOk.out xs (mem_of_get hxs))
                          rw [getD_of hxs] at HK5 H6
                          have K6 := (Kept.of_old O6).bytes HK5.out
                          have hsa := str_any w6 _ _ 96 96 (blk_has HX.out.byte K6) HX.out.len
                          have hsb := str_any w6 a6 _ 96 c6 H6 HX.out.len
                          have HJ0 : Hid (St w d b7 D7 w6 ∧ Rs w r D7 w6 ∧ ∃ cs, cs.length = 96 ∧ Blk w6 g5 5 cs) := ⟨(HI.out.1.step HO5.out).step O6, (HI.out.2.old HO5.out).old O6, cells xs, by simp [cells, HX.out.len], K6⟩
                          clear K6 H6 O6 hxs HK5 HO5 HX HI
                          generalize strOf xs = Y at *
                          go_wp2_with fail
                          go_loopw [231] (fun v wx => ∃ n : Nat, n ≤ 96 ∧ v = .int .i64 n ∧ Hid (St w d b7 D7 wx ∧ Rs w r D7 wx ∧ ∃ cs, cs.length = 96 ∧ Blk wx g5 5 cs)) (fun v _ => 96 - (intOf v).toNat)
                          case atStart => exact ⟨0, by omega, rfl, HJ0⟩
                          case round =>
                            obtain ⟨n, hn96, rfl, HJ⟩ := hrel
                            clear HJ0 hsa hsb
                            by_cases hnl : n < 96
                            · obtain ⟨S7, R7, cs, hcl, K7⟩ := HJ.out
                              obtain ⟨cv, hcv⟩ := get_of_lt (l := cs) (n := n) (by omega)
                              have hcc : wr.cell? ⟨g5, n, none⟩ = some cv := by rw [K7.cell]; exact hcv
                              have hcf : wr.frozen? ⟨g5, n, none⟩ = false := K7.frozen n
                              have T7 := Touch.one (w := wr) ⟨g5, n, none⟩ (.int .u8 77)
                              have HN : Hid (St w d b7 D7 (wr.setCell ⟨g5, n, none⟩ (.int .u8 77)) ∧ Rs w r D7 (wr.setCell ⟨g5, n, none⟩ (.int .u8 77)) ∧ ∃ cs, cs.length = 96 ∧ Blk (wr.setCell ⟨g5, n, none⟩ (.int .u8 77)) g5 5 cs) :=
                                ⟨S7.free T7 (fun g e => by subst e; exact ⟨HG5.out, 5, cs, free5, K7⟩), R7.free T7 (fun g e => by subst e; exact ⟨5, cs, free5, K7⟩), cs.set n (.int .u8 77), by rw [List.length_set]; exact hcl, K7.set n _⟩
                              have hn0 : (0 : Int) ≤ (n : Int) := by omega
                              have hn1 : (n : Int) < 96 := by omega
                              clear S7 R7 hcl K7 T7 HJ hcv
                              go_wp2_with fail
                              exact ⟨⟨n + 1, by omega, by go_num, HN⟩, by simp [intOf]; omega⟩
                            · obtain rfl : n = 96 := by omega
                              have HE : Hid (St w d b7 D7 wr ∧ Rs w r D7 wr) := ⟨HJ.out.1, HJ.out.2.1⟩
                              clear HJ hnl
                              go_wp2_with fail
                              exact ⟨⟨jj + 1, by omega, by rw [show (k : Int) + 1 = ((jj + 1 : Nat) : Int) - 1 by omega], HE⟩, by simp [intOf]; omega⟩
                    · have HE : Hid (TSt w d r tr (i + 1) wr) := ⟨b7, D7, HI.out.1, HI.out.2, HL7.out, HT7.out⟩
                      clear HI
                      go_wp2_with fail
                      go_roundw
                      case rel => exact ⟨i + 1, by omega, by go_num, HE⟩
                      case measure => simp [intOf]; omega
    · have hgo' : ¬ (i : Int) < (len : Int) ∨ ((i : Int) < (len : Int) ∧ ¬ (i : Int) < 50) := by omega
      rcases hgo' with hg1 | ⟨hg1, hg2⟩
      · go_wp2_with fail
        go_ret
        obtain ⟨b9, D9, S9, _⟩ := HS.out.ex
        exact ⟨rfl, S9.old.below (Nat.le_refl _) (fun _ _ q => q)⟩
      · go_wp2_with fail
        go_ret
        obtain ⟨b9, D9, S9, _⟩ := HS.out.ex
        exact ⟨rfl, S9.old.below (Nat.le_refl _) (fun _ _ q => q)⟩
end Go.Proofs.Ythbkhhcijekplaa
