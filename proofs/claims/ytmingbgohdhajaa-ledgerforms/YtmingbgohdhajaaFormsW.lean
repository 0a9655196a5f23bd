/- The walk of lariatlaw5.LedgerForms. -/
import Derived.Test.YtmingbgohdhajaaRefG
import Derived.Test.YtmingbgohdhajaaFormB
import Derived.Deep.CutBlock
namespace Go.Proofs.Ytmingbgohdhajaa
open Go.RowKit
set_option maxRecDepth 100000
set_option linter.unusedSimpArgs false

/-- The slice whose cells begin at a has n slices of bytes. -/
def HasB (w : World) (a : Option Addr) (n : Nat) : Prop := ∀ i, i < n → ∃ b off p l c xs, a = some ⟨b, off, none⟩ ∧ w.cell? ⟨b, off + i, none⟩ = some (.slice p l c) ∧ Has w p xs ∧ xs.length = l ∧ l ≤ c ∧ l ≤ 140737488351232
theorem HasB.old {w w' : World} {a : Option Addr} {n : Nat} (h : HasB w a n) (m : Old w w') : HasB w' a n := fun i hi => by
  obtain ⟨b, off, p, l, c, xs, e, hc, hh, q⟩ := h i hi
  exact ⟨b, off, p, l, c, xs, e, (m.cell (p := ⟨b, off + i, none⟩) (lt_of_cell? hc) (fun q => q)).trans hc, hh.old m, q⟩
/-- What the reference turned is no older than its beginning. -/
theorem old_l {w0 x y : World} (o : Old w0 x) (T : Touch (lmine w0 x) x y) : Old w0 y :=
  ⟨T.os.trans o.os, T.tape.trans o.tape, T.output.trans o.output, Nat.le_trans o.size T.size, fun k hk hn => (T.block k (Nat.lt_of_lt_of_le hk o.size) (fun q => by have := q.1; omega)).trans (o.block k hk hn)⟩

set_option maxHeartbeats 12800000 in
theorem forms_law (aA : Option Addr) (lA cA : Nat) (aI : Option Addr) (lI cI : Nat) (ys : List Int) (by_ : Nat) (aR : Option Addr) (lR cR : Nat) (w : World) (hA : HasA w aA lA) (hlA : lA ≤ 140737488351232) (hI : HasI w aI ys) (hlI : ys.length = lI) (hlI2 : lI ≤ 140737488351232) (_hby : by_ < 256) (hR : HasB w aR lR) (_hlR : lR ≤ 140737488351232) :
    Calls Try.prog 4 #[.slice aA lA cA, .slice aI lI cI, .int .u8 (by_ : Int), .slice aR lR cR] w fun e w' => e = .returned (.bool true) ∧ Old w w' := by
  have HA := Lib.hid hA
  have HI := Lib.hid hI
  have HLI := Lib.hid hlI
  have HRw := Lib.hid hR
  clear hA hI hlI hR
  go_enter Try.func4, Try.ntmps4
  go_wp2_with fail
  refine (known_any w).mono ?_
  rintro x w1 ⟨rfl, O1⟩
  have HO1 := Lib.hid O1
  clear O1
  go_wp2_with fail
  refine (rnew_any 24 (by omega) w1 w1 (Nat.le_refl _)).mono ?_
  rintro x w2 ⟨ry, rfl, R2, O2⟩
  have HR2 := Lib.hid R2
  have HO2 := Lib.hid O2
  clear R2 O2
  go_wp2_with fail
  refine (rfound_any HR2.out (DS.Ok.new (by omega) (by omega)) (by show 0 ≤ 90000; omega) HO2.out.size 10 (by decide)).mono ?_
  rintro x w3 ⟨rfl, N3⟩
  have HN3 : Hid (RN w1 ry (newD 24 10) w2 w3) := N3
  have HO3 : Hid (Old w1 w3) := old_l HO2.out (Touch.of_rmine N3.2)
  clear N3 HR2 HO2
  generalize ((DS.new 24).run (foundT 10)).bad = bd at *
  go_wp2_with fail
  refine (rgood_new (n := 24) (l := 10) (h := 12) HN3.out.1.1 HN3.out.1.2 HO3.out.size rfl (by omega) (by omega) (by omega)).mono ?_
  rintro x w4 ⟨lp, rfl, G4, T4⟩
  have HG0 : Hid (RGood w1 lp ry 10 (2 * 0) 12 w4 ∧ Old w1 w4) := ⟨G4, old_l HO3.out T4⟩
  clear G4 T4 HO3 HN3
  go_upto_block 0 with fail
  go_cut [] (fun wx => ∃ Y : DS, Hid (Rs w1 ry Y wx ∧ Y.Ok ∧ Quiet Y ∧ Y.turns ≤ 3000 ∧ Y.T.length = 24 ∧ Old w wx))
  case first =>
    go_wp2_with fail
    go_loopw [12] (fun i wx => ∃ t : Nat, t ≤ 6 ∧ t ≤ lA ∧ i = .int .i64 t ∧ Hid (RGood w1 lp ry 10 (2 * t) 12 wx ∧ Old w1 wx)) (fun i _ => 6 - (intOf i).toNat)
    case atStart => exact ⟨0, by omega, by omega, rfl, HG0⟩
    case round =>
      obtain ⟨t, ht6, htl, rfl, HG⟩ := hrel
      clear HG0
      by_cases hin : t < lA ∧ t < 6
      · as_aux_lemma =>
          have i0 : (0 : Int) ≤ (t : Int) := by omega
          have i1 : (t : Int) < (lA : Int) := by omega
          have i2 : (t : Int) < 6 := by omega
          have ht5 : t ≤ 5 := by omega
          obtain ⟨bA, offA, rA, rfl, AX⟩ := HA.out t hin.1
          have HX := Lib.hid AX
          have HC : Hid (∀ w', Old w1 w' → w'.cell? ⟨bA, offA + t * 6, none⟩ = some (.int .i64 rA.what) ∧ w'.cell? ⟨bA, offA + t * 6 + 1, none⟩ = some (.int .i64 rA.n) ∧ w'.cell? ⟨bA, offA + t * 6 + 2, none⟩ = some (.int .i64 rA.torn) ∧ w'.cell? ⟨bA, offA + t * 6 + 3, none⟩ = some (.int .i64 rA.cut) ∧ w'.cell? ⟨bA, offA + t * 6 + 4, none⟩ = some (.slice rA.aa rA.la rA.ca) ∧ w'.cell? ⟨bA, offA + t * 6 + 5, none⟩ = some (.slice rA.ka rA.kl rA.kc)) := fun w' hO => by
            have q := AX.old (HO1.out.trans hO)
            exact ⟨q.c0, q.c1, q.c2, q.c3, q.c4, q.c5⟩
          have hd := HC.out wr.drew (HG.out.2.drew)
          have HGd : Hid (RGood w1 lp ry 10 (2 * t) 12 wr.drew ∧ Old w1 wr.drew) := ⟨HG.out.1.old ((Touch.refl _ _).drew), HG.out.2.drew⟩
          have HHm := Lib.hid (rgood_home HGd.out.1 (by omega))
          clear AX hin htl
          go_wp2_with fail
          go_cut [14] (fun v wx => ∃ (a : Option Addr) (e : List Ent) (c : Nat), v = .slice a e.length c ∧ Hid (RGood w1 lp ry 10 (2 * t) 12 wx ∧ Old w1 wx ∧ REnts wx a e ∧ (∀ g, a = some ⟨g, 0, none⟩ → ∃ cs, Blk wx g 120 cs) ∧ Made5 e 12 3))
          case first =>
            go_region_held3 (fun w' => w'.cell? ⟨bA, offA + t * 6, none⟩ = some (.int .i64 rA.what) ∧ w'.cell? ⟨bA, offA + t * 6 + 1, none⟩ = some (.int .i64 rA.n) ∧ w'.cell? ⟨bA, offA + t * 6 + 2, none⟩ = some (.int .i64 rA.torn) ∧ w'.cell? ⟨bA, offA + t * 6 + 3, none⟩ = some (.int .i64 rA.cut) ∧ w'.cell? ⟨bA, offA + t * 6 + 4, none⟩ = some (.slice rA.aa rA.la rA.ca) ∧ w'.cell? ⟨bA, offA + t * 6 + 5, none⟩ = some (.slice rA.ka rA.kl rA.kc)) (first | exact hd | exact hd2 | exact hd3) (first
              | (go_at_call 28; refine HHm.out.mono ?_; rintro x w5 ⟨rfl, O5⟩; have hd2 := HC.out w5 (HGd.out.2.trans O5); have HG5 : Hid (RGood w1 lp ry 10 (2 * t) 12 w5 ∧ Old w1 w5) := ⟨HGd.out.1.old O5, HGd.out.2.trans O5⟩; clear O5)
              | (go_at_call 27; refine (entries_any rA.what rA.n rA.torn rA.cut rA.aa rA.ka rA.la rA.ca rA.kl rA.kc rA.ys 12 3 _ (HX.out.ats.old (HO1.out.trans HG5.out.2)) HX.out.alen (by have := HX.out.small; omega) (by omega) (by omega) (by omega)).mono ?_; rintro x w7 ⟨va, vb, e, rfl, M7, E7, R7, O7⟩
                 have hd3 := HC.out w7 (HG5.out.2.trans O7)
                 have HG7 : Hid (RGood w1 lp ry 10 (2 * t) 12 w7 ∧ Old w1 w7) := ⟨HG5.out.1.old O7, HG5.out.2.trans O7⟩
                 have HM7 := Lib.hid M7
                 have HR7 := Lib.hid R7
                 clear M7 E7 R7 O7))
            all_goals
              rename_i hHeld
              clear hHeld
              obtain ⟨ab, cb, hvb, _, HE7⟩ := HR7.out.form
              subst hvb
              have HF : Hid (RGood w1 lp ry 10 (2 * t) 12 w7 ∧ Old w1 w7 ∧ REnts w7 ab e ∧ (∀ g, ab = some ⟨g, 0, none⟩ → ∃ cs, Blk w7 g 120 cs) ∧ Made5 e 12 3) := ⟨HG7.out.1, HG7.out.2, HE7, fun g hg => HR7.out.typed g (by rw [hg]; rfl), HM7.out⟩
              clear HE7
              go_wp2_with fail
              go_meet
              exact ⟨ab, e, cb, rfl, HF⟩
          case rest =>
            obtain ⟨ab, e, cb, rfl, HF⟩ := hcut
            clear hd HGd HHm HG
            have hel := HF.out.2.2.2.2.few
            have HWr := Lib.hid (rgood_write HF.out.1 (by omega) (by omega) ab e e.length cb HF.out.2.2.1 HF.out.2.2.2.1 rfl (by omega) (fun x hx => (HF.out.2.2.2.2.ent x hx).2))
            generalize e.length = el at *
            go_wp2_with fail
            refine HWr.out.mono ?_
            rintro x w8 ⟨E, rfl, G8, T8⟩
            have HG8 : Hid (RGood w1 lp ry 10 (2 * t + 1) 12 w8 ∧ Old w1 w8) := ⟨G8, old_l HF.out.2.1 T8⟩
            clear G8 T8 HWr HF
            have c0 := (HC.out w8 HG8.out.2).1
            by_cases h4 : rA.what.tmod 5 = 4
            · go_wp2_with fail
              refine (rgood_balance HG8.out.1 (by omega) (by omega)).mono ?_
              rintro x w9 ⟨rfl, G9, T9⟩
              have HG9 : Hid (RGood w1 lp ry 10 (2 * (t + 1)) 12 w9 ∧ Old w1 w9) := ⟨G9, old_l HG8.out.2 T9⟩
              clear G9 T9
              go_wp2_with fail
              exact ⟨⟨t + 1, by omega, by omega, by go_num, HG9⟩, by simp [intOf]; omega⟩
            · have HG9 : Hid (RGood w1 lp ry 10 (2 * (t + 1)) 12 w8 ∧ Old w1 w8) := by
                obtain ⟨m, n, L, H, es, rr, q1, q2, q3, q4, q5, q6, q7⟩ := HG8.out.1.at_
                exact ⟨⟨m, n, L, H, es, rr, q1, q2, q3, q4, by omega, by omega, by omega⟩, HG8.out.2⟩
              have q4 : (rA.what.tmod 5 == 4) = false := by simp; exact h4
              go_wp2_with fail
              exact ⟨⟨t + 1, by omega, by omega, by go_num, HG9⟩, by simp [intOf]; omega⟩
      · obtain ⟨Y, HY⟩ : ∃ Y : DS, Hid (Rs w1 ry Y wr ∧ Y.Ok ∧ Quiet Y ∧ Y.turns ≤ 3000 ∧ Y.T.length = 24 ∧ Old w wr) := by
          obtain ⟨D, q1, q2, q3, q4, q5⟩ := HG.out.1.drum
          exact ⟨D, q1, q2, q3, by omega, by omega, HO1.out.trans HG.out.2⟩
        clear HG
        by_cases hlt : (t : Int) < (lA : Int)
        · have i2 : ¬ (t : Int) < 6 := by omega
          go_wp2_with fail
          go_meet
          exact ⟨Y, HY⟩
        · go_wp2_with fail
          go_meet
          exact ⟨Y, HY⟩
  case rest =>
    obtain ⟨Y, HY⟩ := hcut
    clear HG0
    go_wp2_with fail
    refine (new_st (w0 := wc) 24 (by omega) (by omega) (Touch.refl _ _)).mono ?_
    rintro x w5 ⟨d, b0, rfl, S5, O5⟩
    have HS5 := Lib.hid S5
    clear S5 O5
    go_wp2_with fail
    refine (known_any w5).mono ?_
    rintro x w6 ⟨rfl, O6⟩
    have HS6 := Lib.hid (HS5.out.step O6)
    clear O6 HS5
    go_wp2_with fail
    refine (rnew_any 24 (by omega) w6 w6 (Nat.le_refl _)).mono ?_
    rintro x w7 ⟨z, rfl, R7, O7⟩
    have HF0 : Hid (Fm wc w6 d z 0 (DS.new 24) w7) := ⟨⟨b0, HS6.out.step O7⟩, R7, HS6.out.old.size, O7.size, DS.Ok.new (by omega) (by omega), ⟨rfl, rfl⟩, Nat.le_refl _, by simp [DS.new]⟩
    clear R7 O7 HS6
    go_wp2_with fail
    go_loopw [18] (fun i wx => ∃ (k : Nat) (E : DS), k ≤ 24 ∧ i = .int .i64 k ∧ Hid (Fm wc w6 d z k E wx)) (fun i _ => 24 - (intOf i).toNat)
    case atStart => exact ⟨0, _, by omega, rfl, HF0⟩
    case round =>
      obtain ⟨k, E, hk, rfl, HF⟩ := hrel
      clear HF0
      rename World => wk
      by_cases hlt : k < 24
      · as_aux_lemma =>
          have i0 : (0 : Int) ≤ (k : Int) := by omega
          have i1 : (k : Int) < 24 := by omega
          obtain ⟨y0, hy0⟩ := get_of_lt (l := Y.seen) (n := k) (by rw [DS.seen_length, HY.out.2.2.2.2.1]; exact hlt)
          have Hy0 : Hid (Trk y0) := DS.seen_trk HY.out.2.1 y0 (mem_of_get hy0)
          have hlk := rlook_ok (HY.out.1.old HF.out.since) HY.out.2.1 (by have := HY.out.2.2.2.1; omega) k (by rw [HY.out.2.2.2.2.1]; exact hlt) HY.out.2.2.1.down
          rw [getD_of hy0] at hlk
          have HLk := Lib.hid hlk
          have HOk : Hid (Old w wk) := HY.out.2.2.2.2.2.trans HF.out.since
          clear hlk hy0
          go_wp2_with fail
          refine HLk.out.mono ?_
          rintro x w8 ⟨g, c, rfl, hc, hg, L8, O8⟩
          have HX0 : Hid (Loose w8 g y0 ∧ Old wk w8 ∧ Trk y0) := ⟨L8, O8, Hy0.out⟩
          have HNg := Lib.hid hg
          have hc' : (96 : Int) ≤ (c : Int) := by omega
          clear L8 O8 HLk Hy0 hg
          go_upto_block 4 with fail
          go_cut [] from 89 to 170 (fun wx => ∃ xs : List Nat, Hid (Loose wx g xs ∧ Old wk wx ∧ Trk xs))
          case first =>
            as_aux_lemma =>
              go_wp2_with fail
              go_loopw [21] (fun i wx => ∃ (s : Nat) (xs : List Nat), s ≤ 3 ∧ s ≤ lI ∧ i = .int .i64 s ∧ Hid (Loose wx g xs ∧ Old wk wx ∧ Trk xs)) (fun i _ => 3 - (intOf i).toNat)
              case atStart => exact ⟨0, y0, by omega, by omega, rfl, HX0⟩
              case round =>
                obtain ⟨s, xs, hs3, hsl, rfl, HX⟩ := hrel
                clear HX0
                by_cases hin : s < lI ∧ s < 3
                · have s0 : (0 : Int) ≤ (s : Int) := by omega
                  have s1 : (s : Int) < (lI : Int) := by omega
                  have s2 : (s : Int) < 3 := by omega
                  obtain ⟨bI, offI, rfl, hcI⟩ := (HI.out.old (HOk.out.trans HX.out.2.1)).cell s (by rw [HLI.out]; exact hin.1)
                  generalize ys.getD s 0 = v at *
                  clear hin
                  go_wp2_with fail
                  refine (pick_big v 24 (by omega) (by omega) _).mono ?_
                  rintro x w' ⟨q, hq, rfl, rfl⟩
                  by_cases hqk : (q : Int) = (k : Int)
                  · go_wp2_with fail
                    refine (pick_big _ 96 (by omega) (by omega) _).mono ?_
                    rintro x w' ⟨j, hj, rfl, rfl⟩
                    have j0 : (0 : Int) ≤ (j : Int) := by omega
                    have hjl : j < xs.length := by rw [HX.out.2.2.len]; omega
                    have hcj := HX.out.1.cell j hjl
                    have hfj := HX.out.1.frozen j hjl
                    obtain ⟨b, hb, hb256⟩ := xor_byte (at0 xs j) by_
                    have HX' : Hid (Loose (wr.setCell ⟨g, j, none⟩ (.int .u8 (b : Int))) g (xs.set j b) ∧ Old wk (wr.setCell ⟨g, j, none⟩ (.int .u8 (b : Int))) ∧ Trk (xs.set j b)) :=
                      ⟨HX.out.1.set j b hjl hb256, HX.out.2.1.setCell (p := ⟨g, j, none⟩) (.inr HNg.out) _, set_trk HX.out.2.2 hb256⟩
                    generalize at0 xs j = aj at *
                    generalize xs.set j b = xs' at *
                    clear HX hjl hb256
                    go_wp2_with fail
                    exact ⟨⟨s + 1, xs', by omega, by omega, by go_num, HX'⟩, by simp [intOf]; omega⟩
                  · go_wp2_with fail
                    exact ⟨⟨s + 1, xs, by omega, by omega, by go_num, HX⟩, by simp [intOf]; omega⟩
                · by_cases hlt2 : (s : Int) < (lI : Int)
                  · have i2 : ¬ (s : Int) < 3 := by omega
                    go_wp2_with fail
                    go_meet
                    exact ⟨xs, HX⟩
                  · go_wp2_with fail
                    go_meet
                    exact ⟨xs, HX⟩
          case rest =>
            obtain ⟨xs, HX⟩ := hcut
            clear HX0
            rename World => w9
            by_cases hraw : k < lR
            · obtain ⟨bR, offR, p, l, cR, xr, rfl, hcR, hHr, hlr, hlc, hlm⟩ := (HRw.out.old (HOk.out.trans HX.out.2.1)) k hraw
              have r1 : (k : Int) < (lR : Int) := by omega
              cases h4 : ((l : Int) % 4 == 1)
              · go_wp2_with fail
                refine (fm_lay HF.out HX.out.2.1 hlt HNg.out HX.out.1 HX.out.2.2 _).mono ?_
                rintro x w10 ⟨rfl, F10⟩
                have HF10 := Lib.hid F10
                clear F10 HF
                go_wp2_with fail
                refine (fm_rlay HF10.out hlt HX.out.2.2 _).mono ?_
                rintro x w11 ⟨rfl, F11⟩
                have HF11 := Lib.hid F11
                clear F11 HF10
                go_wp2_with fail
                exact ⟨⟨k + 1, _, by omega, by go_num, HF11⟩, by simp [intOf]; omega⟩
              · as_aux_lemma =>
                  obtain ⟨m, hm⟩ : ∃ m, (xr.take 60).length = m := ⟨_, rfl⟩
                  have hm60 : m ≤ 60 := by rw [← hm, List.length_take]; omega
                  have HFew := Lib.hid (few_row hHr hlr hlc hlm (n := 60) (by omega) hm)
                  have HA1 := Lib.hid (fun q (hq : q ≤ 14) => app_one (q := q) (c := c) HX.out.1.has (by rw [HX.out.2.2.len]; omega) (by omega))
                  have HA2 := Lib.hid (fun q (hq : q ≤ 14) => app_two (w9 := w9) (xs := xs.take q) (q := q) (by rw [List.length_take, HX.out.2.2.len]; omega) hm (by omega))
                  have HCl := Lib.hid (fun q (hq : q ≤ 14) c2 w2 g2 (G : Grows w2 g2 c2 (xs.take q ++ xr.take 60)) => rclose_any (some ⟨g2, 0, none⟩) _ (q + m) c2 w2 G.has (by rw [List.length_append, hm, List.length_take, HX.out.2.2.len]; omega) (by omega))
                  have HTr := Lib.hid (fun q (hq : q ≤ 14) => track_length (xs := xs.take q ++ xr.take 60) (by rw [List.length_append, hm, List.length_take, HX.out.2.2.len]; omega))
                  have HC : Hid (∀ w', Old w9 w' → w'.cell? ⟨bR, offR + k, none⟩ = some (.slice p l cR)) := fun w' o => (o.cell (p := ⟨bR, offR + k, none⟩) (lt_of_cell? hcR) (fun q => q)).trans hcR
                  clear hHr hlr hm hraw
                  go_upto_region 27 with fail
                  go_cut [22] from 89 to 170 (fun v wx => ∃ (g' c' : Nat) (X : List Nat), v = .slice (some ⟨g', 0, none⟩) 96 c' ∧ Hid (Loose wx g' X ∧ Old wk wx ∧ Trk X ∧ wk.heap.size ≤ g'))
                  case first =>
                    go_region_held3 (fun w' => w'.cell? ⟨bR, offR + k, none⟩ = some (.slice p l cR))
                      (first | exact HC.out _ ((Touch.refl _ _).drew) | exact HC.out _ ((Touch.refl (fun _ => False) w9).drew.alloc _) | exact HC.out _ HOf.out | exact HC.out _ (HOf.out.alloc _) | exact HC.out _ HOa.out | exact HC.out _ HOb.out | exact HC.out _ HOz.out)
                      (first
                        | (go_at_call 32; refine (pick_big _ 14 (by omega) (by omega) _).mono ?_; rintro x w' ⟨q, hq, rfl, rfl⟩; have q0 : (0 : Int) ≤ (q : Int) := by omega
                           have q1 : (q : Int) ≤ (c : Int) := by omega
                           have q2 : q ≤ 14 := by omega)
                        | (go_at_call 34
                           refine (HFew.out _ (by first | exact (Touch.refl _ _).drew | exact (Touch.refl (fun _ => False) w9).drew.alloc _ | exact HOa.out)).mono ?_
                           rintro x wf ⟨gf, cf, rfl, hgf, Gf, Of⟩
                           have HOf : Hid (Old w9 wf) := by first | exact ((Touch.refl (fun _ => False) w9).drew).trans Of | exact ((Touch.refl (fun _ => False) w9).drew.alloc _).trans Of | exact HOa.out.trans Of
                           have HGf := Lib.hid Gf
                           have HGof := Lib.hid Of
                           clear Gf Of)
                        | (obtain ⟨g1, c1, wa, hr1, hg1, Ga, Oa, Ta⟩ := HA1.out q q2 _ w9.heap.size ((Touch.refl (fun _ => False) w9).drew.alloc (.cells #[] 5)) (grows_nil w9.drew) (Nat.le_refl _)
                           refine step_append rfl (.tmp 142) (.tmp 150) 34 34 rfl (.slice (some ⟨w9.heap.size, 0, none⟩) 0 0) (.slice (some ⟨g, 0, none⟩) q c) rfl rfl _ _ (hr1 _) ?_
                           have HOa := Lib.hid Oa
                           have HGa := Lib.hid Ga
                           clear Oa Ga Ta hr1)
                        | (obtain ⟨g1, c1, wa, hr1, hg1, Ga, Oa, Ta⟩ := HA1.out q q2 _ w9.heap.size HOf.out ((grows_nil w9.drew).touch HGof.out (fun q => q)) (Nat.le_refl _)
                           refine step_append rfl (.tmp 142) (.tmp 150) 34 34 rfl (.slice (some ⟨w9.heap.size, 0, none⟩) 0 0) (.slice (some ⟨g, 0, none⟩) q c) rfl rfl _ _ (hr1 _) ?_
                           have HOa := Lib.hid Oa
                           have HGa := Lib.hid Ga
                           have HGfa := Lib.hid (HGf.out.touch Ta (fun e => by have e' : gf = w9.heap.size := e; have := hgf; simp at this; omega))
                           clear Oa Ga Ta hr1)
                        | (obtain ⟨g1, c1, wa, hr1, hg1, Ga, Oa, Ta⟩ := HA1.out q q2 _ wf.heap.size (HOf.out.alloc (.cells #[] 5)) (grows_nil wf) HOf.out.size
                           refine step_append rfl (.tmp 142) (.tmp 150) 34 34 rfl (.slice (some ⟨wf.heap.size, 0, none⟩) 0 0) (.slice (some ⟨g, 0, none⟩) q c) rfl rfl _ _ (hr1 _) ?_
                           have HOa := Lib.hid Oa
                           have HGa := Lib.hid Ga
                           have HGfa := Lib.hid ((HGf.out.touch ((Touch.refl (fun _ => False) wf).alloc (.cells #[] 5)) (fun q => q)).touch Ta (fun e => by have e' : gf = wf.heap.size := e; have := HGf.out.lt; omega))
                           clear Oa Ga Ta hr1)
                        | (obtain ⟨g2, c2, wb, hr2, Gb, Ob⟩ := HA2.out q q2 wf g1 c1 gf cf HOf.out (HGa.out.touch HGof.out (fun q => q)) hg1 HGf.out
                           refine step_append rfl (.tmp 151) (.tmp 156) 34 34 rfl (.slice (some ⟨g1, 0, none⟩) q c1) (.slice (some ⟨gf, 0, none⟩) m cf) rfl rfl _ _ (hr2 _) ?_
                           have HOb := Lib.hid Ob
                           have HGb := Lib.hid Gb
                           clear Ob Gb hr2)
                        | (obtain ⟨g2, c2, wb, hr2, Gb, Ob⟩ := HA2.out q q2 wa g1 c1 gf cf HOa.out HGa.out hg1 HGfa.out
                           refine step_append rfl (.tmp 151) (.tmp 156) 34 34 rfl (.slice (some ⟨g1, 0, none⟩) q c1) (.slice (some ⟨gf, 0, none⟩) m cf) rfl rfl _ _ (hr2 _) ?_
                           have HOb := Lib.hid Ob
                           have HGb := Lib.hid Gb
                           clear Ob Gb hr2)
                        | (go_at_call 33
                           refine (HCl.out q q2 c2 wb g2 HGb.out).mono ?_
                           rintro x wz ⟨gz, cz, rfl, hcz, hgz, Gz, Oz⟩
                           have HOz := Lib.hid (HOb.out.trans Oz)
                           have HFin : Hid (Loose wz gz (track (xs.take q ++ xr.take 60)) ∧ Old wk wz ∧ Trk (track (xs.take q ++ xr.take 60)) ∧ wk.heap.size ≤ gz) := ⟨Gz.own.loose, HX.out.2.1.trans HOz.out, ⟨Gz.byte, HTr.out q q2⟩, Nat.le_trans (HX.out.2.1.trans HOb.out).size hgz⟩
                           clear Gz Oz))
                    all_goals
                      rename_i hHeld
                      clear hHeld
                      go_wp2_with fail
                      go_meet
                      exact ⟨gz, cz, _, rfl, HFin⟩
                  case rest =>
                    obtain ⟨g', c', X, rfl, HFin⟩ := hcut
                    clear HX HFew HA1 HA2 HCl HTr HC
                    go_wp2_with fail
                    refine (fm_lay HF.out HFin.out.2.1 hlt HFin.out.2.2.2 HFin.out.1 HFin.out.2.2.1 _).mono ?_
                    rintro x w10 ⟨rfl, F10⟩
                    have HF10 := Lib.hid F10
                    clear F10 HF
                    go_wp2_with fail
                    refine (fm_rlay HF10.out hlt HFin.out.2.2.1 _).mono ?_
                    rintro x w11 ⟨rfl, F11⟩
                    have HF11 := Lib.hid F11
                    clear F11 HF10
                    go_wp2_with fail
                    exact ⟨⟨k + 1, _, by omega, by go_num, HF11⟩, by simp [intOf]; omega⟩
            · have r1 : ¬ (k : Int) < (lR : Int) := by omega
              go_wp2_with fail
              refine (fm_lay HF.out HX.out.2.1 hlt HNg.out HX.out.1 HX.out.2.2 _).mono ?_
              rintro x w10 ⟨rfl, F10⟩
              have HF10 := Lib.hid F10
              clear F10 HF
              go_wp2_with fail
              refine (fm_rlay HF10.out hlt HX.out.2.2 _).mono ?_
              rintro x w11 ⟨rfl, F11⟩
              have HF11 := Lib.hid F11
              clear F11 HF10
              go_wp2_with fail
              exact ⟨⟨k + 1, _, by omega, by go_num, HF11⟩, by simp [intOf]; omega⟩
      · as_aux_lemma =>
          obtain rfl : k = 24 := by omega
          have HOw : Hid (Old w wk) := HY.out.2.2.2.2.2.trans HF.out.since
          have HOc : Hid (Old w wc) := HY.out.2.2.2.2.2
          rw [show ((24 : Nat) : Int) = 24 from rfl]
          go_wp2_with fail
          refine (fm_settle HF.out (by omega)).mono ?_
          rintro x w9 ⟨rfl, S9, R9, h9⟩
          have HS9 := Lib.hid S9
          have HR9 := Lib.hid R9
          clear S9 R9
          go_wp2_with fail
          refine (fm_rsettle HF.out (by omega) HS9.out HR9.out h9).mono ?_
          rintro x w10 ⟨rfl, F10⟩
          have HF10 := Lib.hid F10
          clear F10 HS9 HR9 h9 HF
          go_wp2_with fail
          refine (fm_open HF10.out (by omega)).mono ?_
          rintro x w11 ⟨v1, e1, rfl, G11⟩
          have HG11 := Lib.hid G11
          clear G11
          go_wp2_with fail
          refine (fm_ropen HF10.out (by omega) HG11.out).mono ?_
          rintro x w12 ⟨v2, D2, rfl, B12⟩
          have HB0 := Lib.hid B12
          clear B12 HG11 HF10
          go_wp2_with fail
          go_loopw [27] (fun i wx => ∃ k : Nat, k ≤ 24 ∧ i = .int .i64 k ∧ Hid (FBoth wc w6 d z D2 v1 v2 e1 wx)) (fun i _ => 24 - (intOf i).toNat)
          case atStart => exact ⟨0, by omega, rfl, HB0⟩
          case round =>
            obtain ⟨k, hk, rfl, HB⟩ := hrel
            clear HB0
            by_cases hlt : k < 24
            · have j0 : (0 : Int) ≤ (k : Int) := by omega
              have j1 : (k : Int) < 24 := by omega
              obtain ⟨bs, hbs⟩ := get_of_lt (l := D2.seen) (n := k) (by rw [DS.seen_length, HB.out.n]; exact hlt)
              have Hbs : Hid (Trk bs) := DS.seen_trk HB.out.ok bs (mem_of_get hbs)
              have Hb2 := Lib.hid hbs
              obtain ⟨b, hS⟩ := HB.out.st
              have HS := Lib.hid hS
              clear hS hbs
              go_wp2_with fail
              refine (look_st HS.out k (by rw [HB.out.n]; exact hlt) HB.out.dn).mono ?_
              rintro x w13 ⟨g1, rfl, hg1, B13, O13⟩
              have HB13 : Hid (FBoth wc w6 d z D2 v1 v2 e1 w13) := HB.out.old O13
              have HL13 := Lib.hid B13
              clear B13 O13 hg1 HB HS
              go_wp2_with fail
              refine (rlook_ok HB13.out.rs HB13.out.ok (by have := HB13.out.t; omega) k (by rw [HB13.out.n]; exact hlt) HB13.out.dn).mono ?_
              rintro x w14 ⟨g2, c2, rfl, hc2, hg2, L14, O14⟩
              have HB14 : Hid (FBoth wc w6 d z D2 v1 v2 e1 w14) := HB13.out.old O14
              have hs1 : (convert 34 9 (.slice (some ⟨g1, 0, none⟩) 96 96)).run Try.prog w14 = .ok (.string (strOf (D2.seen.getD k []))) w14 := str_any w14 _ _ 96 96 (blk_has (by rw [getD_of Hb2.out]; exact Hbs.out.byte) (HL13.out.touch O14 (fun q => q))) (by rw [getD_of Hb2.out]; exact Hbs.out.len)
              have hs2 : (convert 34 9 (.slice (some ⟨g2, 0, none⟩) 96 c2)).run Try.prog w14 = .ok (.string (strOf (D2.seen.getD k []))) w14 := str_any w14 _ _ 96 c2 L14.has (by rw [getD_of Hb2.out]; exact Hbs.out.len)
              generalize strOf (D2.seen.getD k []) = sb at *
              clear L14 O14 HL13 HB13 Hbs Hb2 hg2
              go_wp2_with fail
              exact ⟨⟨k + 1, by omega, by go_num, HB14⟩, by simp [intOf]; omega⟩
            · obtain rfl : k = 24 := by omega
              have HOr : Hid (Old w wr) := by
                obtain ⟨b, S⟩ := HB.out.st
                exact HOc.out.trans S.old
              rw [show ((24 : Nat) : Int) = 24 from rfl]
              rcases HB.out.is with ⟨rfl, rfl⟩ | ⟨rfl, l, lp', g, b, m, L, rfl, rfl, A, R, ok, hle⟩
              · rw [show ((11 : Nat) : Int) = 11 from rfl]
                go_wp2_with fail
                go_ret
                exact ⟨rfl, HOr.out⟩
              · have HA := Lib.hid A
                have HR := Lib.hid R
                have HK := Lib.hid ok
                have HE := Lib.hid hle
                clear A R ok hle HB
                rw [show ((0 : Nat) : Int) = 0 from rfl]
                go_wp2_with fail
                refine (home_any HA.out.head).mono ?_
                rintro x w' ⟨rfl, rfl⟩
                go_wp2_with fail
                refine (rlhome_any HR.out HK.out.len).mono ?_
                rintro x w15 ⟨rfl, O15⟩
                have HA15 := Lib.hid (HA.out.step O15)
                have HR15 := Lib.hid (HR.out.old O15)
                have HO15 : Hid (Old w w15) := HOr.out.trans O15
                clear O15 HA HR
                go_wp2_with fail
                refine (blank_any HA15.out.head HK.out.laid HE.out).mono ?_
                rintro x w16 ⟨rfl, O16⟩
                have HR16 := Lib.hid (HR15.out.old O16)
                have HO16 : Hid (Old w w16) := HO15.out.trans O16
                clear O16 HR15
                go_wp2_with fail
                refine (rlblank_any HR16.out HK.out.laid HE.out).mono ?_
                rintro x w17 ⟨rfl, O17⟩
                have HO17 : Hid (Old w w17) := HO16.out.trans O17
                clear O17
                go_wp2_with fail
                go_ret
                exact ⟨rfl, HO17.out⟩
end Go.Proofs.Ytmingbgohdhajaa
