/- The walk of lariatlaw5.LedgerLooks. -/
import Derived.Test.YtmingbgohdhajaaGood
import Derived.Deep.CutBlock
namespace Go.Proofs.Ytmingbgohdhajaa
open Go.RowKit
set_option maxRecDepth 100000

/-- How the rounds of the law stand. -/
def Lks (w : World) (d gw l t lp : Nat) (wx : World) : Prop := ∃ H, H.length = 9 ∧ Good w lp d l t H wx ∧ Blk wx gw 9 (strs H)

theorem LAt.store {w0 w : World} {lp d g k : Nat} {b : Bl} {L : LS} {t : TypeId} {cs : List Value} {p : Nat} (h : LAt w0 lp d b g L w) (hk : Blk w k t cs) (ht : otherL t) (e5 : t ≠ 5) (hn : w0.heap.size ≤ k) (v : Value) : LAt w0 lp d b g L (w.setCell ⟨k, p, none⟩ v) := by
  have T := Touch.one (w := w) ⟨k, p, none⟩ v
  obtain ⟨ds, hc⟩ := h.wri.blk
  have h5 : ∀ g cs, Blk w g 5 cs → t ≠ 5 → Blk (w.setCell ⟨k, p, none⟩ v) g 5 cs := fun g cs hg h5 => hg.touch T (hg.ne hk (fun q => h5 q.symm))
  exact ⟨h.st.touch hk ht.1 hn T, h.head.touch T (h.head.ne hk (fun q => ht.2.1 q.symm)), h.wri.keep (fun g cs hg => h5 g cs hg e5) (fun cs hg => hg.touch T (hg.ne hk (fun q => ht.2.2 q.symm))), h.nl, h.ng⟩

set_option maxHeartbeats 12800000 in
theorem looks_law (a0 : Int) (aA : Option Addr) (len cap : Nat) (w : World) (hA : HasA w aA len) (hlm : len ≤ 140737488355328) : Calls Try.prog 7 #[.int .i64 a0, .slice aA len cap] w fun e w' => e = .returned (.bool true) ∧ Below w.heap.size w w' := by
  have HA := Lib.hid hA
  clear hA
  go_enter Try.func7, Try.ntmps7
  go_wp2_with fail
  refine (known_any w).mono ?_
  rintro x w1 ⟨rfl, O1⟩
  have HO1 := Lib.hid O1
  clear O1
  go_wp2_with fail
  refine (pick_big a0 20 (by omega) (by omega) w1).mono ?_
  rintro x w' ⟨k0, hk0, rfl, rfl⟩
  obtain ⟨l, hl⟩ : ∃ l, 5 + k0 = l := ⟨_, rfl⟩
  have hl5 : 5 ≤ l := by omega
  have hl24 : l ≤ 24 := by omega
  have el : (5 : Int) + (k0 : Int) = (l : Int) := by omega
  go_wp2_with fail
  have en : (l : Int) + 11 = ((l + 11 : Nat) : Int) := by omega
  try rw [el]
  rw [en]
  refine (good_found HO1.out (n := l + 11) (l := l) (h := 9) (by omega) hl5 (by omega) (by omega)).mono ?_
  rintro x w2 ⟨lp0, d, rfl, G2, _⟩
  have HG2 := Lib.hid G2
  clear G2 HO1 hl el en
  go_wp2_with fail
  refine (known_any w2).mono ?_
  rintro x w3 ⟨rfl, O3⟩
  have HG3 := Lib.hid (HG2.out.old O3)
  clear O3 HG2
  go_wp2_with fail
  refine (good_home HG3.out).mono ?_
  rintro x w' ⟨rfl, rfl⟩
  rw [show (zeroH 9).length = 9 by simp [zeroH]]
  have hmk : (Instr.makeSlice 68 (.int .i64 9) (.int .i64 9)).run Try.prog w3 = .ok (.slice (some ⟨w3.heap.size, 0, none⟩) 9 9) (w3.alloc (.cells (List.replicate 9 (Value.string ⟨#[]⟩)).toArray 9)) := make_strs 9 (by omega) w3
  have T4 : Old w3 (w3.alloc (.cells (List.replicate 9 (Value.string ⟨#[]⟩)).toArray 9)) := (Touch.refl _ _).alloc _
  have HB0 : Hid (Good w lp0 d l 0 (zeroH 9) (w3.alloc (.cells (List.replicate 9 (Value.string ⟨#[]⟩)).toArray 9)) ∧ Blk (w3.alloc (.cells (List.replicate 9 (Value.string ⟨#[]⟩)).toArray 9)) w3.heap.size 9 (blanks 9 0)) := ⟨HG3.out.old T4, Blk.new w3 9 _⟩
  have HW3 := Lib.hid HG3.out.old0.size
  clear T4 HG3
  generalize w3.alloc (.cells (List.replicate 9 (Value.string ⟨#[]⟩)).toArray 9) = w4 at *
  go_wp2_with fail
  clear hmk
  generalize w3.heap.size = gw at *
  go_loopw [46] (fun i wx => ∃ t : Nat, t ≤ 9 ∧ i = .int .i64 t ∧ Hid (Good w lp0 d l 0 (zeroH 9) wx ∧ Blk wx gw 9 (blanks 9 t))) (fun i _ => 9 - (intOf i).toNat)
  case atStart => exact ⟨0, by omega, rfl, HB0⟩
  case round =>
    obtain ⟨t, ht, rfl, HC⟩ := hrel
    clear HB0
    by_cases hlt : t < 9
    · have i0 : (0 : Int) ≤ (t : Int) := by omega
      have i1 : (t : Int) < 9 := by omega
      have hmk2 : (Instr.makeSlice 34 (.int .i64 96) (.int .i64 96)).run Try.prog wr = .ok (.slice (some ⟨wr.heap.size, 0, none⟩) 96 96) (wr.alloc (.cells (cells (zeros 96)).toArray 5)) := make_bytes 96 (by decide) wr
      have T5 : Old wr (wr.alloc (.cells (cells (zeros 96)).toArray 5)) := (Touch.refl _ _).alloc _
      have hs5 := str_any (wr.alloc (.cells (cells (zeros 96)).toArray 5)) (some ⟨wr.heap.size, 0, none⟩) (zeros 96) 96 96 (Own.new wr (zeros 96) (zeros_byte 96)).has (zeros_length 96)
      have HB5 := HC.out.2.touch T5 (fun q => q)
      have hG5 := HC.out.1.old T5
      obtain ⟨z, hz⟩ := get_of_lt (l := blanks 9 t) (n := t) (by rw [blanks_length 9 t ht]; exact hlt)
      have hcz := (HB5.cell t).trans hz
      have hfz := HB5.frozen t
      have HN : Hid (Good w lp0 d l 0 (zeroH 9) ((wr.alloc (.cells (cells (zeros 96)).toArray 5)).setCell ⟨gw, t, none⟩ (.string (strOf (zeros 96)))) ∧ Blk ((wr.alloc (.cells (cells (zeros 96)).toArray 5)).setCell ⟨gw, t, none⟩ (.string (strOf (zeros 96)))) gw 9 (blanks 9 (t + 1))) := by
        have := HB5.set t (.string (strOf (zeros 96)))
        rw [blanks_set 9 t hlt] at this
        obtain ⟨g, b, L, r, es, A, q1, q2, q3, q4⟩ := hG5.at_
        exact ⟨⟨g, b, L, r, es, A.store HB5 (by unfold otherL other; decide) (by decide) HW3.out _, q1, q2, q3, q4⟩, this⟩
      clear T5 HB5 hG5 HC hz
      generalize strOf (zeros 96) = s0 at *
      generalize wr.alloc (.cells (cells (zeros 96)).toArray 5) = w5 at *
      go_wp2_with fail
      exact ⟨⟨t + 1, by omega, by go_num, HN⟩, by simp [intOf]; omega⟩
    · obtain rfl : t = 9 := by omega
      have HL0 : Hid (Lks w d gw l 0 lp0 wr) := ⟨zeroH 9, by simp [zeroH], HC.out.1, by rw [← blanks_all]; exact HC.out.2⟩
      clear HC
      rw [show ((9 : Nat) : Int) = (9 : Int) from rfl]
      go_wp2_with fail
      go_loopw [5, 9] (fun v i wx => ∃ t lp : Nat, t ≤ 22 ∧ t ≤ len ∧ v = .pointer (some ⟨lp, 0, none⟩) ∧ i = .int .i64 t ∧ Hid (Lks w d gw l t lp wx)) (fun _ i _ => 22 - (intOf i).toNat)
      case atStart => exact ⟨0, lp0, by omega, by omega, rfl, rfl, HL0⟩
      case round =>
        obtain ⟨t, lp, ht22, htl, rfl, rfl, HL⟩ := hrel
        clear HL0
        by_cases hin : t < len ∧ t < 22
        · have i0 : (0 : Int) ≤ (t : Int) := by omega
          have i1 : (t : Int) < (len : Int) := by omega
          have i2 : (t : Int) < 22 := by omega
          obtain ⟨H, hH9, G, B⟩ := HL.out
          have hO := G.old0
          obtain ⟨ba, oa, r, rfl, hx⟩ := HA.out.old hO t hin.1
          have c0 := hx.c0
          have c1 := hx.c1
          have c2 := hx.c2
          have c3 := hx.c3
          have c4 := hx.c4
          have c5 := hx.c5
          have HX := Lib.hid hx
          have HG := Lib.hid G
          have HB := Lib.hid B
          have H9 := Lib.hid hH9
          clear G B hH9 hO hx HL
          go_upto_block 4 with (first | (go_at_call 32; refine (pick_big r.what 8 (by omega) (by omega) _).mono ?_; rintro x w' ⟨q, hq, rfl, rfl⟩))
          go_cut [5] (fun v wx => ∃ lp' : Nat, v = .pointer (some ⟨lp', 0, none⟩) ∧ Hid (Lks w d gw l (t + 1) lp' wx))
          case first =>
            have hq' : q = 5 ∨ q = 6 ∨ q = 7 ∨ (((q : Int) == 5) = false ∧ ((q : Int) == 6) = false ∧ ((q : Int) == 7) = false) := by
              simp only [beq_eq_false_iff_ne, ne_eq]
              omega
            rcases hq' with rfl | rfl | rfl | ⟨hq5, hq6, hq7⟩
            · as_aux_lemma =>
                clear hq c0 c1 c2 c3 c4 c5
                go_wp2_with fail
                refine (good_settle HG.out (by omega)).mono ?_
                rintro x w7 ⟨rfl, G7, K7⟩
                have HE : Hid (Lks w d gw l (t + 1) lp w7) := ⟨H, H9.out, G7, K7 9 gw _ (by unfold otherL other; decide) HB.out⟩
                clear G7 K7
                go_wp2_with fail
                go_meet
                exact ⟨lp, rfl, HE⟩
            · as_aux_lemma =>
                clear hq c0 c1 c2 c3 c4 c5
                go_wp2_with fail
                refine (good_balance HG.out (by omega) (by rw [H9.out]; omega)).mono ?_
                rintro x w7 ⟨rfl, G7, K7⟩
                have HG7 := Lib.hid G7
                have HB7 := Lib.hid (K7 9 gw _ (by unfold otherL other; decide) HB.out)
                clear G7 K7
                go_wp2_with fail
                refine (good_blank HG7.out (by omega) (by rw [H9.out]; omega)).mono ?_
                rintro x w8 ⟨rfl, O8⟩
                have HE : Hid (Lks w d gw l (t + 1) lp w8) := ⟨H, H9.out, (HG7.out.old O8).good, HB7.out.touch O8 (fun q => q)⟩
                clear O8 HG7 HB7
                go_wp2_with fail
                go_meet
                exact ⟨lp, rfl, HE⟩
            · as_aux_lemma =>
                clear hq c0 c1 c2 c3 c4 c5
                go_wp2_with fail
                refine (good_open HG.out (by omega) (by rw [H9.out]; omega)).mono ?_
                rintro x w7 ⟨mp, rfl, G7, K7⟩
                have HE : Hid (Lks w d gw l (t + 1) mp w7) := ⟨H, H9.out, G7, K7 9 gw _ (by unfold otherL other; decide) HB.out⟩
                clear G7 K7
                go_wp2_with fail
                go_meet
                exact ⟨mp, rfl, HE⟩
            · as_aux_lemma =>
                go_wp2_with fail
                refine (entries_any r.what r.n r.torn r.cut r.aa r.ka r.la r.ca r.kl r.kc r.ys 9 4 wr HX.out.ats HX.out.alen (by have := HX.out.small; omega) (by omega) (by omega) (by omega)).mono ?_
                rintro x w7 ⟨va, vb, e, rfl, M7, E7, R7, O7⟩
                obtain ⟨ae, ce, rfl, hce, En7⟩ := E7.form
                have HM := Lib.hid M7
                have HEn7 := Lib.hid En7
                have HG7 := Lib.hid (HG.out.old O7)
                have HB7 := Lib.hid (HB.out.touch O7 (fun q => q))
                obtain ⟨el, hel⟩ : ∃ el, e.length = el := ⟨_, rfl⟩
                have Hel := Lib.hid hel
                have hel4 : el ≤ 4 := by rw [← hel]; exact M7.few
                rw [hel] at hce ⊢
                clear M7 E7 R7 O7 En7 hel HG HB HX c0 c1 c2 c3 c4 c5
                go_wp2_with fail
                refine (good_write HG7.out (by omega) (by rw [H9.out]; omega) ae e el ce HEn7.out Hel.out (by omega) (fun x hx => (HM.out.ent x hx).2)).mono ?_
                rintro x w8 ⟨E, H', rfl, G8, K8, hE⟩
                have HG8 := Lib.hid G8
                have HEn8 := Lib.hid (HEn7.out.keptL K8)
                have HB8 := Lib.hid (K8 9 gw _ (by unfold otherL other; decide) HB7.out)
                clear G8 K8 HG7 HEn7 HB7
                rcases hE with ⟨rfl, rfl⟩ | ⟨rfl, rfl, hbig⟩ | ⟨rfl, rfl, hgo⟩
                · have HE : Hid (Lks w d gw l (t + 1) lp w8) := ⟨H', H9.out, HG8.out, HB8.out⟩
                  clear HG8 HB8 HEn8
                  go_wp2_with fail
                  go_loopw [15] (fun i wx => i = .int .i64 0 ∧ wx = w8) (fun _ _ => 0)
                  case atStart => exact ⟨rfl, rfl⟩
                  case round =>
                    obtain ⟨rfl, rfl⟩ := hrel
                    by_cases h0 : (0 : Int) < (el : Int)
                    · go_wp2_with fail
                      go_meet
                      exact ⟨lp, rfl, HE⟩
                    · go_wp2_with fail
                      go_meet
                      exact ⟨lp, rfl, HE⟩
                · have HE : Hid (Lks w d gw l (t + 1) lp w8) := ⟨H', H9.out, HG8.out, HB8.out⟩
                  have hb : ¬ ((leavesOf el : Nat) : Int) ≤ (l : Int) := by omega
                  have HLv := Lib.hid (leaves_any el w8 (by omega))
                  clear HG8 HB8 HEn8 hbig
                  go_wp2_with fail
                  refine HLv.out.mono ?_
                  rintro x w' ⟨rfl, rfl⟩
                  clear HLv
                  generalize leavesOf el = lv at *
                  go_wp2_with fail
                  go_loopw [15] (fun i wx => i = .int .i64 0 ∧ wx = w8) (fun _ _ => 0)
                  case atStart => exact ⟨rfl, rfl⟩
                  case round =>
                    obtain ⟨rfl, rfl⟩ := hrel
                    by_cases h0 : (0 : Int) < (el : Int)
                    · go_wp2_with fail
                      go_meet
                      exact ⟨lp, rfl, HE⟩
                    · go_wp2_with fail
                      go_meet
                      exact ⟨lp, rfl, HE⟩
                · have HE0 : Hid (Blk w8 gw 9 (strs (tookH H (e.take 0))) ∧ Good w lp d l (t + 1) (tookH H e) w8 ∧ Ents w8 ae e) := ⟨HB8.out, HG8.out, HEn8.out⟩
                  have HGo := Lib.hid hgo
                  clear HG8 HB8 HEn8 hgo
                  go_wp2_with fail
                  go_loopw [15] (fun i wx => ∃ k : Nat, k ≤ el ∧ i = .int .i64 k ∧ Hid (Blk wx gw 9 (strs (tookH H (e.take k))) ∧ Good w lp d l (t + 1) (tookH H e) wx ∧ Ents wx ae e)) (fun i _ => el - (intOf i).toNat)
                  case atStart => exact ⟨0, by omega, rfl, HE0⟩
                  case round =>
                    obtain ⟨k, hk, rfl, HC⟩ := hrel
                    clear HE0
                    by_cases hlt : k < el
                    · obtain ⟨y, hy⟩ := get_of_lt (l := e) (n := k) (by rw [Hel.out]; exact hlt)
                      obtain ⟨bb, off, p, c, rfl, hc0, hc1, hcl, hb⟩ := HC.out.2.2.en k y hy
                      have hyt := (HM.out.ent y (mem_of_get hy)).2
                      have hyl : y.1 < 9 := by have := (HGo.out.1 y (mem_of_get hy)).1; rw [H9.out] at this; exact this
                      rw [hyt.len] at hc1
                      have HD : Hid (Old wr wr.drew) := (Touch.refl _ _).drew
                      have hs := str_any wr.drew p y.2 96 c (hb.old HD.out).has hyt.len
                      have hB9 := HC.out.1.touch HD.out (fun q => q)
                      have hsl : (strs (tookH H (e.take k))).length = 9 := by rw [strs_length, tookH_length, H9.out]
                      obtain ⟨z, hz⟩ := get_of_lt (l := strs (tookH H (e.take k))) (n := y.1) (by rw [hsl]; exact hyl)
                      have hcz := (hB9.cell y.1).trans hz
                      have hfz := hB9.frozen y.1
                      have T9 := Touch.one (w := wr.drew) ⟨gw, y.1, none⟩ (.string (strOf y.2))
                      have HN : Hid (Blk (wr.drew.setCell ⟨gw, y.1, none⟩ (.string (strOf y.2))) gw 9 (strs (tookH H (e.take (k + 1)))) ∧ Good w lp d l (t + 1) (tookH H e) (wr.drew.setCell ⟨gw, y.1, none⟩ (.string (strOf y.2))) ∧ Ents (wr.drew.setCell ⟨gw, y.1, none⟩ (.string (strOf y.2))) (some ⟨bb, off, none⟩) e) := by
                        refine ⟨?_, ?_, (HC.out.2.2.old HD.out).keep (fun g cs hg => hg.touch T9 (hg.ne hB9 (by decide))) (fun g cs hg => hg.touch T9 (hg.ne hB9 (by decide)))⟩
                        · have := hB9.set y.1 (.string (strOf y.2))
                          rw [strs_set, ← tookH_snoc, ← take_get hy] at this
                          exact this
                        · obtain ⟨g, b, L, r', es, A, q1, q2, q3, q4⟩ := (HC.out.2.1.old HD.out).at_
                          exact ⟨g, b, L, r', es, A.store hB9 (by unfold otherL other; decide) (by decide) HW3.out _, q1, q2, q3, q4⟩
                      have hS : Hid (wr.drew.cell? ⟨bb, off + k * 2, none⟩ = some (.int .i64 (y.1 : Int)) ∧ wr.drew.cell? ⟨bb, off + k * 2 + 1, none⟩ = some (.slice p 96 c) ∧ (convert 34 9 (.slice p 96 c)).run Try.prog wr.drew = .ok (.string (strOf y.2)) wr.drew) := ⟨hc0, hc1, hs⟩
                      have hbb : bb ≠ gw := by
                        obtain ⟨ds, hd⟩ := HC.out.2.2.blk bb off rfl
                        exact hd.ne HC.out.1 (by decide)
                      have hS2 : Hid ((wr.drew.setCell ⟨gw, y.1, none⟩ (.string (strOf y.2))).cell? ⟨bb, off + k * 2, none⟩ = some (.int .i64 (y.1 : Int)) ∧ (wr.drew.setCell ⟨gw, y.1, none⟩ (.string (strOf y.2))).cell? ⟨bb, off + k * 2 + 1, none⟩ = some (.slice p 96 c) ∧ (convert 34 9 (.slice p 96 c)).run Try.prog (wr.drew.setCell ⟨gw, y.1, none⟩ (.string (strOf y.2))) = .ok (.string (strOf y.2)) (wr.drew.setCell ⟨gw, y.1, none⟩ (.string (strOf y.2)))) :=
                        ⟨(World.cell?_setCell_other _ _ _ _ (fun q => hbb (congrArg Addr.block q).symm)).trans hc0, (World.cell?_setCell_other _ _ _ _ (fun q => hbb (congrArg Addr.block q).symm)).trans hc1, str_any _ p y.2 96 c ((hb.old HD.out).keep (fun g cs hg => hg.touch T9 (hg.ne hB9 (by decide)))).has hyt.len⟩
                      have i0 : (0 : Int) ≤ (k : Int) := by omega
                      have i1 : (k : Int) < (el : Int) := by omega
                      have j0 : (0 : Int) ≤ (y.1 : Int) := by omega
                      have j1 : (y.1 : Int) < 9 := by omega
                      clear HC hs hB9 hz T9 hb hy hyt hsl hbb HD hcl
                      generalize strOf y.2 = sy at *
                      generalize y.1 = y1 at *
                      go_wp2_with fail
                      go_region_held3 (fun w' => w'.cell? ⟨bb, off + k * 2, none⟩ = some (.int .i64 (y1 : Int)) ∧ w'.cell? ⟨bb, off + k * 2 + 1, none⟩ = some (.slice p 96 c) ∧ (convert 34 9 (.slice p 96 c)).run Try.prog w' = .ok (.string sy) w') (first | exact hS.out | exact hS2.out) (fail)
                      all_goals
                        rename_i hHeld
                        clear hHeld
                        go_wp2_with fail
                        exact ⟨⟨k + 1, by omega, by go_num, HN⟩, by simp [intOf]; omega⟩
                    · obtain rfl : k = el := by omega
                      have HE : Hid (Lks w d gw l (t + 1) lp wr) := by
                        refine ⟨tookH H e, by rw [tookH_length, H9.out], HC.out.2.1, ?_⟩
                        have := HC.out.1
                        rw [List.take_of_length_le (by rw [Hel.out]; exact Nat.le_refl _)] at this
                        exact this
                      clear HC
                      go_wp2_with fail
                      go_meet
                      exact ⟨lp, rfl, HE⟩
          case rest =>
            as_aux_lemma =>
              obtain ⟨lp', rfl, HE⟩ := hcut
              clear HG HB HX H9 c0 c1 c2 c3 c4 c5 hq
              obtain ⟨H', h9, G', B'⟩ := HE.out
              have HI : Hid (Good w lp' d l (t + 1) H' wc ∧ Blk wc gw 9 (strs H')) := ⟨G', B'⟩
              have H9' := Lib.hid h9
              clear HE G' B' h9
              go_wp2_with fail
              go_loopw [156] (fun i wx => ∃ k : Nat, k ≤ 9 ∧ i = .int .i64 k ∧ Hid (Good w lp' d l (t + 1) H' wx ∧ Blk wx gw 9 (strs H'))) (fun i _ => 9 - (intOf i).toNat)
              case atStart => exact ⟨0, by omega, rfl, HI⟩
              case round =>
                obtain ⟨k, hk, rfl, HC⟩ := hrel
                clear HI
                by_cases hlt : k < 9
                · have j0 : (0 : Int) ≤ (k : Int) := by omega
                  have j1 : (k : Int) < 9 := by omega
                  obtain ⟨bs, hbs⟩ := get_of_lt (l := H') (n := k) (by rw [H9'.out]; exact hlt)
                  have HLk := Lib.hid (good_look HC.out.1 (by omega) hbs)
                  have Hbs := Lib.hid hbs
                  clear hbs
                  go_wp2_with fail
                  refine HLk.out.mono ?_
                  rintro x w7 ⟨h7, o7, c7, rfl, hl7, B7, O7⟩
                  have HC7 : Hid (Good w lp' d l (t + 1) H' w7.drew ∧ Blk w7.drew gw 9 (strs H')) := ⟨(HC.out.1.old O7).old (Touch.refl _ _).drew, (HC.out.2.touch O7 (fun q => q)).touch ((Touch.refl (fun _ => False) w7).drew) (fun q => q)⟩
                  have hS : Hid ((convert 34 9 (.slice (some ⟨h7, o7, none⟩) 96 c7)).run Try.prog w7.drew = .ok (.string (strOf bs)) w7.drew ∧ w7.drew.cell? ⟨gw, k, none⟩ = some (.string (strOf bs))) := ⟨str_any w7.drew _ bs 96 c7 (B7.old (Touch.refl (fun _ => False) w7).drew).has hl7, (HC7.out.2.cell k).trans (strs_get Hbs.out)⟩
                  clear B7 O7 HC HLk hl7
                  generalize strOf bs = sb at *
                  go_wp2_with fail
                  go_cut [175] (fun v wx => v = .bool false ∧ wx = w7.drew)
                  case first =>
                    go_region_held3 (fun w' => (convert 34 9 (.slice (some ⟨h7, o7, none⟩) 96 c7)).run Try.prog w' = .ok (.string sb) w' ∧ w'.cell? ⟨gw, k, none⟩ = some (.string sb)) (first | exact hS.out) (fail)
                    all_goals
                      rename_i hHeld
                      clear hHeld
                      go_wp2_with fail
                      go_meet
                      exact ⟨rfl, rfl⟩
                  case rest =>
                    obtain ⟨rfl, rfl⟩ := hcut
                    clear hS
                    go_wp2_with fail
                    exact ⟨⟨k + 1, by omega, by go_num, HC7⟩, by simp [intOf]; omega⟩
                · obtain rfl : k = 9 := by omega
                  have HN : Hid (Lks w d gw l (t + 1) lp' wr) := ⟨H', H9'.out, HC.out.1, HC.out.2⟩
                  clear HC
                  go_wp2_with fail
                  exact ⟨⟨t + 1, lp', by omega, by omega, rfl, by go_num, HN⟩, by simp [intOf]; omega⟩
        · obtain ⟨H, h9, G, B⟩ := HL.out
          have HO := Lib.hid G.old0
          clear G B HL
          by_cases hlt : (t : Int) < (len : Int)
          · have i2 : ¬ (t : Int) < 22 := by omega
            go_wp2_with fail
            go_ret
            exact ⟨rfl, HO.out.below (Nat.le_refl _) (fun _ _ h => h)⟩
          · go_wp2_with fail
            go_ret
            exact ⟨rfl, HO.out.below (Nat.le_refl _) (fun _ _ h => h)⟩
end Go.Proofs.Ytmingbgohdhajaa
