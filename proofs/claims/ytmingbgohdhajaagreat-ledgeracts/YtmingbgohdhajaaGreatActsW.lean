/- The walk of lariatlaw5.LedgerActs. -/
import Derived.Test.YtmingbgohdhajaaGreatActsC
import Derived.Test.YtmingbgohdhajaaGreatEntW
import Derived.Test.YtmingbgohdhajaaGreatAct
import Derived.Deep.CutBlock
namespace Go.Proofs.YtmingbgohdhajaaGreat
open Go.RowKit
set_option maxRecDepth 100000
set_option linter.unusedSimpArgs false

def actCs (r : ActR) : List Value := actCells r.what r.n r.torn r.cut r.aa r.ka r.la r.ca r.kl r.kc

set_option maxHeartbeats 12800000 in
theorem acts_law (a0 a1 : Int) (aA : Option Addr) (lA cA : Nat) (w : World) (hA : HasA w aA lA) (_hlA : lA ≤ 140737488351232) :
    Calls Tryz.prog 3 #[.int .i64 a0, .int .i64 a1, .slice aA lA cA] w fun e w' => e = .returned (.bool true) ∧ Old w w' := by
  have HA := Lib.hid hA
  clear hA
  go_enter Tryz.func3, Tryz.ntmps3
  go_wp2_with fail
  refine (known_any w).mono ?_
  rintro x w1 ⟨rfl, O1⟩
  have HO1 := Lib.hid O1
  clear O1
  go_wp2_with fail
  refine (pick_big a1 14 (by omega) (by omega) w1).mono ?_
  rintro x w' ⟨k0, hk0, rfl, rfl⟩
  obtain ⟨l, hl⟩ : ∃ l, 5 + k0 = l := ⟨_, rfl⟩
  have hl5 : 5 ≤ l := by omega
  have hl18 : l ≤ 18 := by omega
  have el : (5 : Int) + (k0 : Int) = (l : Int) := by omega
  go_wp2_with fail
  try rw [el]
  refine (pick_big a0 10 (by omega) (by omega) _).mono ?_
  rintro x w' ⟨k1, hk1, rfl, rfl⟩
  obtain ⟨nT, hnT⟩ : ∃ nT, l + 5 + k1 = nT := ⟨_, rfl⟩
  have hn60 : nT ≤ 60 := by omega
  have en : (l : Int) + 5 + (k1 : Int) = (nT : Int) := by omega
  clear hl el hk0
  go_wp2_with fail
  try rw [en]
  obtain ⟨F, Lv, _⟩ := newL_live (n := nT) (l := l) (h := 3 + k1) (by omega) hl5 (by omega) (by omega)
  refine (foundL_any HO1.out nT l F).mono ?_
  rintro x w2 ⟨lp0, d, g0, b0, rfl, A2, _⟩
  have HA2 := Lib.hid A2
  clear A2 HO1 Lv F en
  go_wp2_with fail
  refine (known_any w2).mono ?_
  rintro x w3 ⟨rfl, O3⟩
  have HA3 := Lib.hid (HA2.out.step O3)
  clear O3 HA2
  go_wp2_with fail
  refine (rnew_any nT (by omega) w3 w3 (Nat.le_refl _)).mono ?_
  rintro x w4 ⟨z, rfl, R4, O4⟩
  have HR4 := Lib.hid R4
  have HA4 := Lib.hid (HA3.out.step O4)
  have HO4 := Lib.hid O4
  clear R4 O4
  go_wp2_with fail
  refine (rfound_any HR4.out (DS.Ok.new (by omega) (by omega)) (by show 0 ≤ 90000; omega) HO4.out.size l (by unfold fits; simp [DS.new]; omega)).mono ?_
  rintro x w5 ⟨rfl, N5⟩
  have HN5 : Hid (RN w3 z (newD nT l) w4 w5) := N5
  have HA5 := Lib.hid (HA4.out.lstay (Touch.of_rmine N5.2) HA3.out.st.old.size)
  clear N5 HR4 HA4
  generalize ((DS.new nT).run (foundT l)).bad = bd at *
  go_wp2_with fail
  refine (two_new (h := 3 + k1) (by omega) hl5 (by omega) hn60 ⟨_, _, HA5.out⟩ HN5.out.1.1 HN5.out.1.2 HA3.out.st.old.size (Nat.le_trans HO4.out.size HN5.out.2.size)).mono ?_
  rintro x w6 ⟨rp0, rfl, T6⟩
  have HT0 := Lib.hid T6
  clear T6 HA5 HN5 HO4 HA3
  generalize newL nT l = L0 at *
  go_wp2_with fail
  go_loopw [8, 11, 13] (fun vl vr i wx => ∃ (t lp rp : Nat) (L : LS), t ≤ 24 ∧ t ≤ lA ∧ vl = .pointer (some ⟨lp, 0, none⟩) ∧ vr = .pointer (some ⟨rp, 0, none⟩) ∧ i = .int .i64 t ∧ Hid (Two w w3 nT d z lp rp t L wx)) (fun _ _ i _ => 24 - (intOf i).toNat)
  case atStart => exact ⟨0, lp0, rp0, L0, by omega, by omega, rfl, rfl, rfl, HT0⟩
  case round =>
    obtain ⟨t, lp, rp, L, ht24, htl, rfl, rfl, rfl, HL⟩ := hrel
    clear HT0
    by_cases hin : t < lA ∧ t < 24
    · have i0 : (0 : Int) ≤ (t : Int) := by omega
      have i1 : (t : Int) < (lA : Int) := by omega
      have i2 : (t : Int) < 24 := by omega
      have ht30 : t ≤ 30 := by omega
      have htl1 : t + 1 ≤ lA := by omega
      have ht1 : t + 1 ≤ 24 := by omega
      obtain ⟨ba, oa, r, rfl, hx⟩ := HA.out t hin.1
      have hx2 := hx.old HL.out.m.since
      have c0 := hx2.c0
      have c1 := hx2.c1
      have c2 := hx2.c2
      have c3 := hx2.c3
      have c4 := hx2.c4
      have c5 := hx2.c5
      have HX := Lib.hid hx
      clear hx hx2 hin
      go_upto_region 15 with fail
      have HM0 : Hid (Two w w3 nT d z lp rp t L (wr.alloc (.cells #[.int .i64 r.what, .int .i64 r.n, .int .i64 r.torn, .int .i64 r.cut, .slice r.aa r.la r.ca, .slice r.ka r.kl r.kc] 38)) ∧ Blk (wr.alloc (.cells #[.int .i64 r.what, .int .i64 r.n, .int .i64 r.torn, .int .i64 r.cut, .slice r.aa r.la r.ca, .slice r.ka r.kl r.kc] 38)) wr.heap.size 38 (actCs r)) := ⟨HL.out.old ((Touch.refl _ _).alloc _), Blk.new wr 38 (actCs r)⟩
      clear HL c0 c1 c2 c3 c4 c5
      generalize wr.alloc (.cells #[.int .i64 r.what, .int .i64 r.n, .int .i64 r.torn, .int .i64 r.cut, .slice r.aa r.la r.ca, .slice r.ka r.kl r.kc] 38) = w7 at *
      generalize wr.heap.size = gx at *
      have HT := Lib.hid HM0.out.1
      have HG := Lib.hid HM0.out.2
      have cx0 : w7.cell? ⟨gx, 0, none⟩ = some (.int .i64 r.what) := HM0.out.2.cell 0
      clear HM0
      go_upto_block 2 with (first | (go_at_call 5; refine (pick_big r.what 12 (by omega) (by omega) _).mono ?_; rintro x w' ⟨q, hq, rfl, rfl⟩))
      go_cut [8, 11, 15] from 73 to 299 (fun vl vr vo wx => ∃ (lp' rp' : Nat) (L' : LS), vl = .pointer (some ⟨lp', 0, none⟩) ∧ vr = .pointer (some ⟨rp', 0, none⟩) ∧ vo = .bool true ∧ Hid (Two w w3 nT d z lp' rp' (t + 1) L' wx))
      case first =>
        have hq' : q = 6 ∨ q = 7 ∨ q = 10 ∨ q = 8 ∨ q = 9 ∨ q = 11 ∨ (((q : Int) == 6) = false ∧ ((q : Int) == 7) = false ∧ ((q : Int) == 8) = false ∧ ((q : Int) == 9) = false ∧ ((q : Int) == 10) = false ∧ ((q : Int) == 11) = false) := by
          simp only [beq_eq_false_iff_ne, ne_eq]
          omega
        clear cx0
        rcases hq' with rfl | rfl | rfl | rfl | rfl | rfl | ⟨hq6, hq7, hq8, hq9, hq10, hq11⟩
        · as_aux_lemma =>
            clear hq
            go_wp2_with fail
            refine (two_settle HT.out ht30).mono ?_
            rintro x w8 ⟨rfl, M8⟩
            have HM8 := Lib.hid M8
            clear M8
            go_wp2_with fail
            refine (two_rsettle HM8.out HT.out.fit ht30).mono ?_
            rintro x w9 ⟨rfl, T9⟩
            have HT9 := Lib.hid T9
            clear T9 HM8
            generalize L.settleE = e8 at *
            go_wp2_with fail
            go_meet
            exact ⟨lp, rp, _, rfl, rfl, rfl, HT9⟩
        · as_aux_lemma =>
            clear hq
            go_wp2_with fail
            refine (two_balance HT.out ht30).mono ?_
            rintro x w8 ⟨rfl, M8⟩
            have HM8 := Lib.hid M8
            clear M8
            go_wp2_with fail
            refine (two_rbalance HM8.out HT.out.fit ht30 hn60).mono ?_
            rintro x w9 ⟨rfl, T9⟩
            have HT9 := Lib.hid T9
            clear T9 HM8
            generalize L.balanceE = e8 at *
            go_wp2_with fail
            go_meet
            exact ⟨lp, rp, _, rfl, rfl, rfl, HT9⟩
        · as_aux_lemma =>
            clear hq
            have cx1 : w7.cell? ⟨gx, 1, none⟩ = some (.int .i64 r.n) := HG.out.cell 1
            go_wp2_with fail
            refine (pick_big r.n 14 (by omega) (by omega) _).mono ?_
            rintro x w' ⟨kn, hkn, rfl, rfl⟩
            go_wp2_with fail
            refine (two_break HT.out ((kn : Int) - 1) (by omega)).mono ?_
            rintro x w8 ⟨rfl, M8⟩
            have HM8 := Lib.hid M8
            clear M8 cx1
            go_wp2_with fail
            refine (two_rbreak HM8.out HT.out.fit (by omega) (by omega)).mono ?_
            rintro x w9 ⟨rfl, T9⟩
            have HT9 := Lib.hid T9
            clear T9 HM8
            go_wp2_with fail
            go_meet
            exact ⟨lp, rp, _, rfl, rfl, rfl, HT9⟩
        · as_aux_lemma =>
            clear hq
            have cx5 : w7.cell? ⟨gx, 5, none⟩ = some (.slice r.ka r.kl r.kc) := HG.out.cell 5
            go_wp2_with fail
            refine (few_any r.ka r.ks r.kl r.kc 12 _ (HX.out.keep.old HT.out.m.since) HX.out.klen (by omega) (by omega)).mono ?_
            rintro x w8 ⟨bk, mk, ck, yk, rfl, hyl, hym, hyI, hyB, O8⟩
            have HT8 := Lib.hid (HT.out.old O8)
            have Hyl := Lib.hid hyl
            have HyI := Lib.hid hyI
            have HyB := Lib.hid hyB
            have HG8 := Lib.hid (HG.out.touch O8 (fun q => q))
            have cx2 : w8.cell? ⟨gx, 2, none⟩ = some (.int .i64 r.torn) := HG8.out.cell 2
            have cx3 : w8.cell? ⟨gx, 3, none⟩ = some (.int .i64 r.cut) := HG8.out.cell 3
            clear hyl hyI hyB O8 cx5
            go_wp2_with fail
            refine (pick_big r.torn 14 (by omega) (by omega) _).mono ?_
            rintro x w' ⟨kt, hkt, rfl, rfl⟩
            go_wp2_with fail
            refine (pick_big r.cut 97 (by omega) (by omega) _).mono ?_
            rintro x w' ⟨kc, hkc, rfl, rfl⟩
            clear cx2 cx3
            go_wp2_with fail
            refine (two_fall HT8.out.drums (by have := HT8.out.fit.turns; omega) bk yk mk ck ((kt : Int) - 1) (kc : Int) HyI.out Hyl.out hym HyB.out).mono ?_
            rintro x w9 ⟨rfl, M9, I9, B9⟩
            have HM9 := Lib.hid M9
            have HI9 := Lib.hid I9
            have HB9 := Lib.hid B9
            clear M9 I9 B9
            go_wp2_with fail
            refine (two_rfall bk yk mk ck ((kt : Int) - 1) (kc : Int) HM9.out (by have := HT8.out.fit.turns; omega) HI9.out Hyl.out hym HB9.out).mono ?_
            rintro x w10 ⟨rfl, M10⟩
            have HM10 := Lib.hid M10
            have HD : Hid ((L.D.fall (partOf yk ((kt : Int) - 1) (kc : Int))).T.length = nT ∧ (L.D.fall (partOf yk ((kt : Int) - 1) (kc : Int))).turns ≤ 1000 + 1000 * t) := ⟨by show (falls _ _ _ _).length = nT; rw [falls_length]; exact HT.out.fit.n, HT.out.fit.turns⟩
            clear M10 HM9 HI9 HB9 HT8 HG8 Hyl HyI HyB
            generalize L.D.fall (partOf yk ((kt : Int) - 1) (kc : Int)) = D at *

            go_wp2_with fail
            refine (two_open HM10.out (by have := HD.out.2; omega)).mono ?_
            rintro x w13 ⟨v, E, rfl, P13⟩
            have HP13 := Lib.hid P13
            clear P13
            go_wp2_with fail
            refine (two_ropen (t := t + 1) HP13.out (by have := HD.out.2; omega) HD.out.1 hn60 (by have := HD.out.2; omega)).mono ?_
            rintro x w14 ⟨v', rfl, ⟨hE, O14⟩ | ⟨rfl, lp', rp', L', rfl, rfl, T14⟩⟩
            · have hE2 : ((E : Int) == 0) = false := by simp; omega
              have HO14 := Lib.hid O14
              clear O14 HP13 HM10
              go_wp2_with fail
              go_ret
              exact ⟨rfl, HO14.out⟩
            · have HT14 := Lib.hid T14
              clear T14 HP13 HM10
              go_wp2_with fail
              go_meet
              exact ⟨lp', rp', L', rfl, rfl, rfl, HT14⟩
        · as_aux_lemma =>
            clear hq
            go_wp2_with fail
            refine (two_broken HT.out).mono ?_
            rintro x w' ⟨rfl, rfl⟩
            cases hdn : L.D.down
            · skip
              have HM10 := Lib.hid HT.out.drums
              have HD : Hid (L.D.T.length = nT ∧ L.D.turns ≤ 1000 + 1000 * t) := ⟨HT.out.fit.n, HT.out.fit.turns⟩
              generalize hDD : L.D = D at *
              clear hDD hdn
              go_wp2_with fail
              refine (two_open HM10.out (by have := HD.out.2; omega)).mono ?_
              rintro x w13 ⟨v, E, rfl, P13⟩
              have HP13 := Lib.hid P13
              clear P13
              go_wp2_with fail
              refine (two_ropen (t := t + 1) HP13.out (by have := HD.out.2; omega) HD.out.1 hn60 (by have := HD.out.2; omega)).mono ?_
              rintro x w14 ⟨v', rfl, ⟨hE, O14⟩ | ⟨rfl, lp', rp', L', rfl, rfl, T14⟩⟩
              · have hE2 : ((E : Int) == 0) = false := by simp; omega
                have HO14 := Lib.hid O14
                clear O14 HP13 HM10
                go_wp2_with fail
                go_ret
                exact ⟨rfl, HO14.out⟩
              · have HT14 := Lib.hid T14
                clear T14 HP13 HM10
                go_wp2_with fail
                go_meet
                exact ⟨lp', rp', L', rfl, rfl, rfl, HT14⟩
            · skip
              clear hdn
              have cx5 : w7.cell? ⟨gx, 5, none⟩ = some (.slice r.ka r.kl r.kc) := HG.out.cell 5
              go_wp2_with fail
              refine (few_any r.ka r.ks r.kl r.kc 12 _ (HX.out.keep.old HT.out.m.since) HX.out.klen (by omega) (by omega)).mono ?_
              rintro x w8 ⟨bk, mk, ck, yk, rfl, hyl, hym, hyI, hyB, O8⟩
              have HT8 := Lib.hid (HT.out.old O8)
              have Hyl := Lib.hid hyl
              have HyI := Lib.hid hyI
              have HyB := Lib.hid hyB
              have HG8 := Lib.hid (HG.out.touch O8 (fun q => q))
              have cx2 : w8.cell? ⟨gx, 2, none⟩ = some (.int .i64 r.torn) := HG8.out.cell 2
              have cx3 : w8.cell? ⟨gx, 3, none⟩ = some (.int .i64 r.cut) := HG8.out.cell 3
              clear hyl hyI hyB O8 cx5
              go_wp2_with fail
              refine (pick_big r.torn 14 (by omega) (by omega) _).mono ?_
              rintro x w' ⟨kt, hkt, rfl, rfl⟩
              go_wp2_with fail
              refine (pick_big r.cut 97 (by omega) (by omega) _).mono ?_
              rintro x w' ⟨kc, hkc, rfl, rfl⟩
              clear cx2 cx3
              go_wp2_with fail
              refine (two_fall HT8.out.drums (by have := HT8.out.fit.turns; omega) bk yk mk ck ((kt : Int) - 1) (kc : Int) HyI.out Hyl.out hym HyB.out).mono ?_
              rintro x w9 ⟨rfl, M9, I9, B9⟩
              have HM9 := Lib.hid M9
              have HI9 := Lib.hid I9
              have HB9 := Lib.hid B9
              clear M9 I9 B9
              go_wp2_with fail
              refine (two_rfall bk yk mk ck ((kt : Int) - 1) (kc : Int) HM9.out (by have := HT8.out.fit.turns; omega) HI9.out Hyl.out hym HB9.out).mono ?_
              rintro x w10 ⟨rfl, M10⟩
              have HM10 := Lib.hid M10
              have HD : Hid ((L.D.fall (partOf yk ((kt : Int) - 1) (kc : Int))).T.length = nT ∧ (L.D.fall (partOf yk ((kt : Int) - 1) (kc : Int))).turns ≤ 1000 + 1000 * t) := ⟨by show (falls _ _ _ _).length = nT; rw [falls_length]; exact HT.out.fit.n, HT.out.fit.turns⟩
              clear M10 HM9 HI9 HB9 HT8 HG8 Hyl HyI HyB
              generalize L.D.fall (partOf yk ((kt : Int) - 1) (kc : Int)) = D at *
              go_wp2_with fail
              refine (two_open HM10.out (by have := HD.out.2; omega)).mono ?_
              rintro x w13 ⟨v, E, rfl, P13⟩
              have HP13 := Lib.hid P13
              clear P13
              go_wp2_with fail
              refine (two_ropen (t := t + 1) HP13.out (by have := HD.out.2; omega) HD.out.1 hn60 (by have := HD.out.2; omega)).mono ?_
              rintro x w14 ⟨v', rfl, ⟨hE, O14⟩ | ⟨rfl, lp', rp', L', rfl, rfl, T14⟩⟩
              · have hE2 : ((E : Int) == 0) = false := by simp; omega
                have HO14 := Lib.hid O14
                clear O14 HP13 HM10
                go_wp2_with fail
                go_ret
                exact ⟨rfl, HO14.out⟩
              · have HT14 := Lib.hid T14
                clear T14 HP13 HM10
                go_wp2_with fail
                go_meet
                exact ⟨lp', rp', L', rfl, rfl, rfl, HT14⟩
        · as_aux_lemma =>
            clear hq
            have cx5 : w7.cell? ⟨gx, 5, none⟩ = some (.slice r.ka r.kl r.kc) := HG.out.cell 5
            go_wp2_with fail
            refine (few_any r.ka r.ks r.kl r.kc 12 _ (HX.out.keep.old HT.out.m.since) HX.out.klen (by omega) (by omega)).mono ?_
            rintro x w8 ⟨bk, mk, ck, yk, rfl, hyl, hym, hyI, hyB, O8⟩
            have HT8 := Lib.hid (HT.out.old O8)
            have Hyl := Lib.hid hyl
            have HyI := Lib.hid hyI
            have HyB := Lib.hid hyB
            have HG8 := Lib.hid (HG.out.touch O8 (fun q => q))
            have cx2 : w8.cell? ⟨gx, 2, none⟩ = some (.int .i64 r.torn) := HG8.out.cell 2
            have cx3 : w8.cell? ⟨gx, 3, none⟩ = some (.int .i64 r.cut) := HG8.out.cell 3
            clear hyl hyI hyB O8 cx5
            go_wp2_with fail
            refine (pick_big r.torn 14 (by omega) (by omega) _).mono ?_
            rintro x w' ⟨kt, hkt, rfl, rfl⟩
            go_wp2_with fail
            refine (pick_big r.cut 97 (by omega) (by omega) _).mono ?_
            rintro x w' ⟨kc, hkc, rfl, rfl⟩
            clear cx2 cx3
            go_wp2_with fail
            refine (two_fall HT8.out.drums (by have := HT8.out.fit.turns; omega) bk yk mk ck ((kt : Int) - 1) (kc : Int) HyI.out Hyl.out hym HyB.out).mono ?_
            rintro x w9 ⟨rfl, M9, I9, B9⟩
            have HM9 := Lib.hid M9
            have HI9 := Lib.hid I9
            have HB9 := Lib.hid B9
            clear M9 I9 B9
            go_wp2_with fail
            refine (two_rfall bk yk mk ck ((kt : Int) - 1) (kc : Int) HM9.out (by have := HT8.out.fit.turns; omega) HI9.out Hyl.out hym HB9.out).mono ?_
            rintro x w10 ⟨rfl, M10⟩
            have HM10 := Lib.hid M10
            have HD : Hid ((L.D.fall (partOf yk ((kt : Int) - 1) (kc : Int))).T.length = nT ∧ (L.D.fall (partOf yk ((kt : Int) - 1) (kc : Int))).turns ≤ 1000 + 1000 * t) := ⟨by show (falls _ _ _ _).length = nT; rw [falls_length]; exact HT.out.fit.n, HT.out.fit.turns⟩
            clear M10 HM9 HI9 HB9 HT8 HG8 Hyl HyI HyB
            generalize L.D.fall (partOf yk ((kt : Int) - 1) (kc : Int)) = D at *

            go_wp2_with fail
            refine (two_found HM10.out (by have := HD.out.2; omega) l (by rw [HD.out.1]; unfold fits; simp; omega)).mono ?_
            rintro x w11 ⟨rfl, M11⟩
            have HM11 := Lib.hid M11
            clear M11
            go_wp2_with fail
            refine (two_rfound l HM11.out (by have := HD.out.2; omega) (by rw [HD.out.1]; unfold fits; simp; omega)).mono ?_
            rintro x w12 ⟨rfl, M12⟩
            have HM12 := Lib.hid M12
            have HD2 : Hid ((D.run (foundT l)).T.length = nT ∧ (D.run (foundT l)).turns ≤ 1000 + 1000 * t + 23) := ⟨by rw [DS.run_len]; exact HD.out.1, by
              have h1 := DS.run_turns D (foundT l)
              have e : (foundT l).length = 2 + l + 3 := by simp [foundT, beginT]
              rw [e] at h1
              have := HD.out.2
              omega⟩
            clear M12 HM10 HM11 HD
            have HM10 := HM12
            have HD := HD2
            clear HM12 HD2
            generalize (D.run (foundT l)).bad = bq at *
            generalize D.run (foundT l) = D5 at *

            go_wp2_with fail
            refine (two_open HM10.out (by have := HD.out.2; omega)).mono ?_
            rintro x w13 ⟨v, E, rfl, P13⟩
            have HP13 := Lib.hid P13
            clear P13
            go_wp2_with fail
            refine (two_ropen (t := t + 1) HP13.out (by have := HD.out.2; omega) HD.out.1 hn60 (by have := HD.out.2; omega)).mono ?_
            rintro x w14 ⟨v', rfl, ⟨hE, O14⟩ | ⟨rfl, lp', rp', L', rfl, rfl, T14⟩⟩
            · have hE2 : ((E : Int) == 0) = false := by simp; omega
              have HO14 := Lib.hid O14
              clear O14 HP13 HM10
              go_wp2_with fail
              go_ret
              exact ⟨rfl, HO14.out⟩
            · have HT14 := Lib.hid T14
              clear T14 HP13 HM10
              go_wp2_with fail
              go_meet
              exact ⟨lp', rp', L', rfl, rfl, rfl, HT14⟩
        · as_aux_lemma =>
            clear hq
            have hC : Hid (∀ w', Old w7 w' → w'.cell? ⟨gx, 0, none⟩ = some (.int .i64 r.what) ∧ w'.cell? ⟨gx, 1, none⟩ = some (.int .i64 r.n) ∧ w'.cell? ⟨gx, 2, none⟩ = some (.int .i64 r.torn) ∧ w'.cell? ⟨gx, 3, none⟩ = some (.int .i64 r.cut) ∧ w'.cell? ⟨gx, 4, none⟩ = some (.slice r.aa r.la r.ca) ∧ w'.cell? ⟨gx, 5, none⟩ = some (.slice r.ka r.kl r.kc)) := fun w' o => by
              have B := HG.out.touch o (fun q => q)
              exact ⟨B.cell 0, B.cell 1, B.cell 2, B.cell 3, B.cell 4, B.cell 5⟩
            have hd := hC.out w7.drew ((Touch.refl _ _).drew)
            have HTd := Lib.hid (HT.out.old ((Touch.refl _ _).drew))
            have HHm := Lib.hid (two_rhome HTd.out)
            have hws := HT.out.fit.ok.home
            have hws2 : L.ws.length ≤ 1000 := by have := HT.out.fit.ok.len; have := HT.out.fit.ok.few; omega
            obtain ⟨nh, hnh⟩ : ∃ nh, L.ws.length = nh := ⟨_, rfl⟩
            rw [hnh] at HHm hws hws2
            clear hnh
            go_upto_region 18 with fail
            go_region_held3 (fun w' => w'.cell? ⟨gx, 0, none⟩ = some (.int .i64 r.what) ∧ w'.cell? ⟨gx, 1, none⟩ = some (.int .i64 r.n) ∧ w'.cell? ⟨gx, 2, none⟩ = some (.int .i64 r.torn) ∧ w'.cell? ⟨gx, 3, none⟩ = some (.int .i64 r.cut) ∧ w'.cell? ⟨gx, 4, none⟩ = some (.slice r.aa r.la r.ca) ∧ w'.cell? ⟨gx, 5, none⟩ = some (.slice r.ka r.kl r.kc)) (first | exact hd | exact hd2 | exact hd3) (first
              | (go_at_call 23; refine HHm.out.mono ?_; rintro x w8 ⟨rfl, O8⟩
                 have hd2 := hC.out w8 (((Touch.refl (fun _ => False) w7).drew).trans O8)
                 have HT8 := Lib.hid (HTd.out.old O8)
                 have HO8 := Lib.hid (((Touch.refl (fun _ => False) w7).drew).trans O8)
                 clear O8)
              | (go_at_call 22; refine (entries_any r.what r.n r.torn r.cut r.aa r.ka r.la r.ca r.kl r.kc r.ys nh 5 _ (HX.out.ats.old HT8.out.m.since) HX.out.alen (by have := HX.out.small; omega) (by omega) (by omega) (by omega)).mono ?_
                 rintro x w9 ⟨va, vb, e, rfl, M9, E9, R9, O9⟩
                 have hd3 := hC.out w9 (HO8.out.trans O9)
                 have HT9 := Lib.hid (HT8.out.old O9)
                 have HM9 := Lib.hid M9
                 have HE9 := Lib.hid E9
                 have HR9 := Lib.hid R9
                 clear M9 E9 R9 O9))
            all_goals
              rename_i hHeld
              clear hHeld
              obtain ⟨ae, ce, rfl, hce, hEn9⟩ := HE9.out.form
              obtain ⟨ab, cb, hvb, _, hRE9⟩ := HR9.out.form
              subst hvb
              have HEn := Lib.hid hEn9
              have HRe := Lib.hid hRE9
              have HTy : Hid (∀ g, ab = some ⟨g, 0, none⟩ → ∃ cs, Blk w9 g 116 cs) := fun g hg => HR9.out.typed g (by rw [hg]; rfl)
              have HTk : Hid (∀ x ∈ e, Trk x.2) := fun x hx => (HM9.out.ent x hx).2
              have hel := HM9.out.few
              obtain ⟨el, hel2⟩ : ∃ el, e.length = el := ⟨_, rfl⟩
              have Hel := Lib.hid hel2
              rw [hel2] at hel hce ⊢
              clear hEn9 hRE9 hel2 HE9 HR9 HM9 hd hd2 hd3 hC HHm HTd HT8 HO8 HG
              go_wp2_with fail
              refine (two_write HT9.out ht30 ae e el ce HEn.out Hel.out (by omega) HRe.out HTy.out).mono ?_
              rintro x w10 ⟨rfl, M10, R10, B10⟩
              have HM10 := Lib.hid M10
              have HR10 := Lib.hid R10
              have HB10 := Lib.hid B10
              clear M10 R10 B10 HRe HTy HEn
              go_wp2_with fail
              refine (two_rwrite HM10.out HT9.out.fit ht30 hn60 ab el cb HR10.out HB10.out Hel.out (by omega) HTk.out).mono ?_
              rintro x w11 ⟨rfl, T11⟩
              have HT11 := Lib.hid T11
              clear T11 HM10 HR10 HB10 HT9
              generalize L.writeE e = e8 at *
              go_wp2_with fail
              go_meet
              exact ⟨lp, rp, _, rfl, rfl, rfl, HT11⟩
      case rest =>
        obtain ⟨lp', rp', L', rfl, rfl, rfl, HT'⟩ := hcut
        clear HT HG cx0 hq HX
        rename World => w8
        go_upto_region 47 with fail
        go_cut [244] from 73 to 299 (fun v wx => v = .bool false ∧ Hid (Two w w3 nT d z lp' rp' (t + 1) L' wx))
        case first =>
          as_aux_lemma =>
            obtain ⟨hc6, hc4, aa, ca, hc1⟩ := two_cells HT'.out
            have HC : Hid (∀ w', Old w8 w' → w'.cell? ⟨rp', 6, none⟩ = some (.bool L'.lost) ∧ w'.cell? ⟨z, 4, none⟩ = some (.int .i64 (L'.D.turns : Int)) ∧ w'.cell? ⟨z, 1, none⟩ = some (.slice aa L'.D.A.length ca)) := fun w' o => ⟨(o.cell (p := ⟨rp', 6, none⟩) (lt_of_cell? hc6) (fun q => q)).trans hc6, (o.cell (p := ⟨z, 4, none⟩) (lt_of_cell? hc4) (fun q => q)).trans hc4, (o.cell (p := ⟨z, 1, none⟩) (lt_of_cell? hc1) (fun q => q)).trans hc1⟩
            have HW : Hid (∀ w', Old w8 w' → Two w w3 nT d z lp' rp' (t + 1) L' w') := fun w' o => HT'.out.old o
            have HCa : Hid (∀ w', Old w8 w' → (Calls Tryz.prog 26 #[.pointer (some ⟨lp', 0, none⟩)] w' fun x w'' => x = .returned (.bool L'.lost) ∧ w' = w'')) := fun w' o => two_lost (HW.out w' o)
            have HCb : Hid (∀ w', Old w8 w' → (Calls Tryz.prog 27 #[.pointer (some ⟨lp', 0, none⟩)] w' fun x w'' => x = .returned (.int .i64 ((L'.leaves - L'.laid : Nat) : Int)) ∧ Old w' w'')) := fun w' o => two_blank (HW.out w' o)
            have HCc : Hid (∀ w', Old w8 w' → (Calls Tryz.prog 28 #[.pointer (some ⟨rp', 0, none⟩)] w' fun x w'' => x = .returned (.int .i64 ((L'.leaves - L'.laid : Nat) : Int)) ∧ Old w' w'')) := fun w' o => two_rblank (HW.out w' o)
            have HCd : Hid (∀ w', Old w8 w' → (Calls Tryz.prog 29 #[.pointer (some ⟨lp', 0, none⟩)] w' fun x w'' => x = .returned (.int .i64 (L'.ws.length : Int)) ∧ w' = w'')) := fun w' o => two_home (HW.out w' o)
            have HCe : Hid (∀ w', Old w8 w' → (Calls Tryz.prog 23 #[.pointer (some ⟨rp', 0, none⟩)] w' fun x w'' => x = .returned (.int .i64 (L'.ws.length : Int)) ∧ Old w' w'')) := fun w' o => two_rhome (HW.out w' o)
            have HCf : Hid (∀ w', Old w8 w' → (Calls Tryz.prog 30 #[.pointer (some ⟨d, 0, none⟩)] w' fun x w'' => x = .returned (.int .i64 (L'.D.turns : Int)) ∧ w' = w'')) := fun w' o => two_turns (HW.out w' o)
            have HCg : Hid (∀ w', Old w8 w' → (Calls Tryz.prog 31 #[.pointer (some ⟨d, 0, none⟩)] w' fun x w'' => ∃ g, x = .returned (.slice (some ⟨g, 0, none⟩) L'.D.A.length L'.D.A.length) ∧ Old w' w'')) := fun w' o => two_afloat (HW.out w' o) (by omega)
            have HO0 : Hid (Old w8 w8.drew) := (Touch.refl _ _).drew
            clear hc6 hc4 hc1 HT'
            generalize L'.leaves - L'.laid = bl at *
            generalize L'.ws.length = nh at *
            generalize L'.D.turns = tu at *
            generalize L'.D.A.length = na at *
            cases hlo : L'.lost
            · rw [hlo] at HC HCa
              clear hlo
              refine wp_region_grow (by kernel_rfl) ?_
              refine wpGrow_take (i := 0) (oi := ⟨some 189, _, _, _, _, _⟩) (v := ?av0) rfl (by kernel_rfl) (by kernel_rfl) (by kernel_rfl) (fun _ _ _ h => h) (by kernel_rfl) ?ay0 ?ar0
              case ay0 =>
                intro wt hO
                go_simp
                try with_reducible rfl
              try simp only [Act.put, List.setIfInBounds_toArray, List.set_cons_zero, List.set_cons_succ]
              refine wpGrow_take (i := 1) (oi := ⟨some 190, _, _, _, _, _⟩) (v := ?av1) rfl (by kernel_rfl) (by kernel_rfl) (by kernel_rfl) (fun _ _ _ h => h) (by kernel_rfl) ?ay1 ?ar1
              case ay1 =>
                intro wt hO
                go_simp
                try with_reducible rfl
              try simp only [Act.put, List.setIfInBounds_toArray, List.set_cons_zero, List.set_cons_succ]
              refine wpGrow_take (i := 2) (oi := ⟨some 191, _, _, _, _, _⟩) (v := ?av2) rfl (by kernel_rfl) (by kernel_rfl) (by kernel_rfl) (fun _ _ _ h => h) (by kernel_rfl) ?ay2 ?ar2
              case ay2 =>
                intro wt hO
                go_simp
                try with_reducible rfl
              try simp only [Act.put, List.setIfInBounds_toArray, List.set_cons_zero, List.set_cons_succ]
              refine wpGrow_take (i := 3) (oi := ⟨some 192, _, _, _, _, _⟩) (v := ?av3) rfl (by kernel_rfl) (by kernel_rfl) (by kernel_rfl) (fun _ _ _ h => h) (by kernel_rfl) ?ay3 ?ar3
              case ay3 =>
                intro wt hO
                go_simp
                try with_reducible rfl
              try simp only [Act.put, List.setIfInBounds_toArray, List.set_cons_zero, List.set_cons_succ]
              refine wpGrow_take (i := 4) (oi := ⟨some 193, _, _, _, _, _⟩) (v := ?av4) rfl (by kernel_rfl) (by kernel_rfl) (by kernel_rfl) (fun _ _ _ h => h) (by kernel_rfl) ?ay4 ?ar4
              case ay4 =>
                intro wt hO
                go_simp
                try with_reducible rfl
              try simp only [Act.put, List.setIfInBounds_toArray, List.set_cons_zero, List.set_cons_succ]
              refine wpGrow_take (i := 5) (oi := ⟨some 194, _, _, _, _, _⟩) (v := ?av5) rfl (by kernel_rfl) (by kernel_rfl) (by kernel_rfl) (fun _ _ _ h => h) (by kernel_rfl) ?ay5 ?ar5
              case ay5 =>
                intro wt hO
                go_simp
                try with_reducible rfl
              try simp only [Act.put, List.setIfInBounds_toArray, List.set_cons_zero, List.set_cons_succ]
              refine wpGrow_take (i := 6) (oi := ⟨some 195, _, _, _, _, _⟩) (v := ?av6) rfl (by kernel_rfl) (by kernel_rfl) (by kernel_rfl) (fun _ _ _ h => h) (by kernel_rfl) ?ay6 ?ar6
              case ay6 =>
                intro wt hO
                go_simp
                try with_reducible rfl
              try simp only [Act.put, List.setIfInBounds_toArray, List.set_cons_zero, List.set_cons_succ]
              refine wpGrow_take (i := 7) (oi := ⟨some 196, _, _, _, _, _⟩) (v := ?av7) rfl (by kernel_rfl) (by kernel_rfl) (by kernel_rfl) (fun _ _ _ h => h) (by kernel_rfl) ?ay7 ?ar7
              case ay7 =>
                intro wt hO
                go_simp
                try with_reducible rfl
              try simp only [Act.put, List.setIfInBounds_toArray, List.set_cons_zero, List.set_cons_succ]
              refine wpGrow_take (i := 9) (oi := ⟨some 198, _, _, _, _, _⟩) (v := ?av9) rfl (by kernel_rfl) (by kernel_rfl) (by kernel_rfl) (fun _ _ _ h => h) (by kernel_rfl) ?ay9 ?ar9
              case ay9 =>
                intro wt hO
                go_simp
                try with_reducible rfl
              try simp only [Act.put, List.setIfInBounds_toArray, List.set_cons_zero, List.set_cons_succ]
              refine wpGrow_take (i := 10) (oi := ⟨some 199, _, _, _, _, _⟩) (v := ?av10) rfl (by kernel_rfl) (by kernel_rfl) (by kernel_rfl) (fun _ _ _ h => h) (by kernel_rfl) ?ay10 ?ar10
              case ay10 =>
                intro wt hO
                go_simp
                try with_reducible rfl
              try simp only [Act.put, List.setIfInBounds_toArray, List.set_cons_zero, List.set_cons_succ]
              refine wpGrow_take (i := 11) (oi := ⟨some 200, _, _, _, _, _⟩) (v := ?av11) rfl (by kernel_rfl) (by kernel_rfl) (by kernel_rfl) (fun _ _ _ h => h) (by kernel_rfl) ?ay11 ?ar11
              case ay11 =>
                intro wt hO
                go_simp
                try with_reducible rfl
              try simp only [Act.put, List.setIfInBounds_toArray, List.set_cons_zero, List.set_cons_succ]
              refine wpGrow_take (i := 12) (oi := ⟨some 201, _, _, _, _, _⟩) (v := ?av12) rfl (by kernel_rfl) (by kernel_rfl) (by kernel_rfl) (fun _ _ _ h => h) (by kernel_rfl) ?ay12 ?ar12
              case ay12 =>
                intro wt hO
                obtain ⟨q6, q4, q1⟩ := HC.out wt (HO0.out.trans hO); go_simp
                try with_reducible rfl
              try simp only [Act.put, List.setIfInBounds_toArray, List.set_cons_zero, List.set_cons_succ]
              refine wpGrow_call (i := 8) (o := ⟨some 197, _, _, _, _, _⟩) rfl (by kernel_rfl) (by kernel_rfl) (fun K hK => ?_)
              go_simp
              refine (HCa.out _ HO0.out).mono ?_
              rintro ye wm ⟨rfl, hwm⟩
              subst hwm
              refine hK.out _ _ (Touch.refl _ _) ?_
              clear hK
              try simp only [Act.put, List.setIfInBounds_toArray, List.set_cons_zero, List.set_cons_succ]
              refine wpGrow_take (i := 13) (oi := ⟨some 202, _, _, _, _, _⟩) (v := ?av13) rfl (by kernel_rfl) (by kernel_rfl) (by kernel_rfl) (fun _ _ _ h => h) (by kernel_rfl) ?ay13 ?ar13
              case ay13 =>
                intro wt hO
                go_simp
                try with_reducible rfl
              try simp only [Act.put, List.setIfInBounds_toArray, List.set_cons_zero, List.set_cons_succ]
              refine wpGrow_take (i := 14) (oi := ⟨some 203, _, _, _, _, _⟩) (v := ?av14) rfl (by kernel_rfl) (by kernel_rfl) (by kernel_rfl) (fun _ _ _ h => h) (by kernel_rfl) ?ay14 ?ar14
              case ay14 =>
                intro wt hO
                go_simp
                try with_reducible rfl
              try simp only [Act.put, List.setIfInBounds_toArray, List.set_cons_zero, List.set_cons_succ]
              refine wpGrow_take (i := 15) (oi := ⟨some 204, _, _, _, _, _⟩) (v := ?av15) rfl (by kernel_rfl) (by kernel_rfl) (by kernel_rfl) (fun _ _ _ h => h) (by kernel_rfl) ?ay15 ?ar15
              case ay15 =>
                intro wt hO
                go_simp
                try with_reducible rfl
              try simp only [Act.put, List.setIfInBounds_toArray, List.set_cons_zero, List.set_cons_succ]
              refine wpGrow_take (i := 16) (oi := ⟨some 205, _, _, _, _, _⟩) (v := ?av16) rfl (by kernel_rfl) (by kernel_rfl) (by kernel_rfl) (fun _ _ _ h => h) (by kernel_rfl) ?ay16 ?ar16
              case ay16 =>
                intro wt hO
                go_simp
                try with_reducible rfl
              try simp only [Act.put, List.setIfInBounds_toArray, List.set_cons_zero, List.set_cons_succ]
              refine wpGrow_take (i := 17) (oi := ⟨some 206, _, _, _, _, _⟩) (v := ?av17) rfl (by kernel_rfl) (by kernel_rfl) (by kernel_rfl) (fun _ _ _ h => h) (by kernel_rfl) ?ay17 ?ar17
              case ay17 =>
                intro wt hO
                go_simp
                try with_reducible rfl
              try simp only [Act.put, List.setIfInBounds_toArray, List.set_cons_zero, List.set_cons_succ]
              refine wpGrow_take (i := 18) (oi := ⟨some 207, _, _, _, _, _⟩) (v := ?av18) rfl (by kernel_rfl) (by kernel_rfl) (by kernel_rfl) (fun _ _ _ h => h) (by kernel_rfl) ?ay18 ?ar18
              case ay18 =>
                intro wt hO
                go_simp
                try with_reducible rfl
              try simp only [Act.put, List.setIfInBounds_toArray, List.set_cons_zero, List.set_cons_succ]
              refine wpGrow_take (i := 19) (oi := ⟨some 208, _, _, _, _, _⟩) (v := ?av19) rfl (by kernel_rfl) (by kernel_rfl) (by kernel_rfl) (fun _ _ _ h => h) (by kernel_rfl) ?ay19 ?ar19
              case ay19 =>
                intro wt hO
                obtain ⟨q6, q4, q1⟩ := HC.out wt (HO0.out.trans hO); go_simp
                try with_reducible rfl
              try simp only [Act.put, List.setIfInBounds_toArray, List.set_cons_zero, List.set_cons_succ]
              refine wpGrow_take (i := 20) (oi := ⟨some 209, _, _, _, _, _⟩) (v := ?av20) rfl (by kernel_rfl) (by kernel_rfl) (by kernel_rfl) (fun _ _ _ h => h) (by kernel_rfl) ?ay20 ?ar20
              case ay20 =>
                intro wt hO
                go_simp
                try with_reducible rfl
              try simp only [Act.put, List.setIfInBounds_toArray, List.set_cons_zero, List.set_cons_succ]
              refine wpGrow_take (i := 21) (oi := ⟨some 210, _, _, _, _, _⟩) (v := ?av21) rfl (by kernel_rfl) (by kernel_rfl) (by kernel_rfl) (fun _ _ _ h => h) (by kernel_rfl) ?ay21 ?ar21
              case ay21 =>
                intro wt hO
                go_simp
                try with_reducible rfl
              try simp only [Act.put, List.setIfInBounds_toArray, List.set_cons_zero, List.set_cons_succ]
              refine wpGrow_take (i := 22) (oi := ⟨some 211, _, _, _, _, _⟩) (v := ?av22) rfl (by kernel_rfl) (by kernel_rfl) (by kernel_rfl) (fun _ _ _ h => h) (by kernel_rfl) ?ay22 ?ar22
              case ay22 =>
                intro wt hO
                go_simp
                try with_reducible rfl
              try simp only [Act.put, List.setIfInBounds_toArray, List.set_cons_zero, List.set_cons_succ]
              refine wpGrow_take (i := 24) (oi := ⟨some 213, _, _, _, _, _⟩) (v := ?av24) rfl (by kernel_rfl) (by kernel_rfl) (by kernel_rfl) (fun _ _ _ h => h) (by kernel_rfl) ?ay24 ?ar24
              case ay24 =>
                intro wt hO
                go_simp
                try with_reducible rfl
              try simp only [Act.put, List.setIfInBounds_toArray, List.set_cons_zero, List.set_cons_succ]
              refine wpGrow_call (i := 23) (o := ⟨some 212, _, _, _, _, _⟩) rfl (by kernel_rfl) (by kernel_rfl) (fun K hK => ?_)
              go_simp
              refine (HCb.out _ HO0.out).mono ?_
              rintro ye wb ⟨rfl, Ob⟩
              have HO1 := Lib.hid (HO0.out.trans Ob)
              refine hK.out _ _ Ob ?_
              clear hK Ob
              try simp only [Act.put, List.setIfInBounds_toArray, List.set_cons_zero, List.set_cons_succ]
              refine wpGrow_call (i := 25) (o := ⟨some 214, _, _, _, _, _⟩) rfl (by kernel_rfl) (by kernel_rfl) (fun K hK => ?_)
              go_simp
              refine (HCc.out _ HO1.out).mono ?_
              rintro ye wb ⟨rfl, Ob⟩
              have HO2 := Lib.hid (HO1.out.trans Ob)
              refine hK.out _ _ Ob ?_
              clear hK Ob
              try simp only [Act.put, List.setIfInBounds_toArray, List.set_cons_zero, List.set_cons_succ]
              refine wpGrow_take (i := 26) (oi := ⟨some 215, _, _, _, _, _⟩) (v := ?av26) rfl (by kernel_rfl) (by kernel_rfl) (by kernel_rfl) (fun _ _ _ h => h) (by kernel_rfl) ?ay26 ?ar26
              case ay26 =>
                intro wt hO
                go_simp
                try with_reducible rfl
              try simp only [Act.put, List.setIfInBounds_toArray, List.set_cons_zero, List.set_cons_succ]
              refine wpGrow_take (i := 27) (oi := ⟨some 216, _, _, _, _, _⟩) (v := ?av27) rfl (by kernel_rfl) (by kernel_rfl) (by kernel_rfl) (fun _ _ _ h => h) (by kernel_rfl) ?ay27 ?ar27
              case ay27 =>
                intro wt hO
                go_simp
                try with_reducible rfl
              try simp only [Act.put, List.setIfInBounds_toArray, List.set_cons_zero, List.set_cons_succ]
              refine wpGrow_take (i := 28) (oi := ⟨some 217, _, _, _, _, _⟩) (v := ?av28) rfl (by kernel_rfl) (by kernel_rfl) (by kernel_rfl) (fun _ _ _ h => h) (by kernel_rfl) ?ay28 ?ar28
              case ay28 =>
                intro wt hO
                go_simp
                try with_reducible rfl
              try simp only [Act.put, List.setIfInBounds_toArray, List.set_cons_zero, List.set_cons_succ]
              refine wpGrow_take (i := 29) (oi := ⟨some 218, _, _, _, _, _⟩) (v := ?av29) rfl (by kernel_rfl) (by kernel_rfl) (by kernel_rfl) (fun _ _ _ h => h) (by kernel_rfl) ?ay29 ?ar29
              case ay29 =>
                intro wt hO
                go_simp
                try with_reducible rfl
              try simp only [Act.put, List.setIfInBounds_toArray, List.set_cons_zero, List.set_cons_succ]
              refine wpGrow_take (i := 30) (oi := ⟨some 219, _, _, _, _, _⟩) (v := ?av30) rfl (by kernel_rfl) (by kernel_rfl) (by kernel_rfl) (fun _ _ _ h => h) (by kernel_rfl) ?ay30 ?ar30
              case ay30 =>
                intro wt hO
                go_simp
                try with_reducible rfl
              try simp only [Act.put, List.setIfInBounds_toArray, List.set_cons_zero, List.set_cons_succ]
              refine wpGrow_take (i := 32) (oi := ⟨some 221, _, _, _, _, _⟩) (v := ?av32) rfl (by kernel_rfl) (by kernel_rfl) (by kernel_rfl) (fun _ _ _ h => h) (by kernel_rfl) ?ay32 ?ar32
              case ay32 =>
                intro wt hO
                go_simp
                try with_reducible rfl
              try simp only [Act.put, List.setIfInBounds_toArray, List.set_cons_zero, List.set_cons_succ]
              refine wpGrow_call (i := 31) (o := ⟨some 220, _, _, _, _, _⟩) rfl (by kernel_rfl) (by kernel_rfl) (fun K hK => ?_)
              go_simp
              refine (HCd.out _ HO2.out).mono ?_
              rintro ye wm ⟨rfl, hwm⟩
              subst hwm
              refine hK.out _ _ (Touch.refl _ _) ?_
              clear hK
              try simp only [Act.put, List.setIfInBounds_toArray, List.set_cons_zero, List.set_cons_succ]
              refine wpGrow_call (i := 33) (o := ⟨some 222, _, _, _, _, _⟩) rfl (by kernel_rfl) (by kernel_rfl) (fun K hK => ?_)
              go_simp
              refine (HCe.out _ HO2.out).mono ?_
              rintro ye wb ⟨rfl, Ob⟩
              have HO3 := Lib.hid (HO2.out.trans Ob)
              refine hK.out _ _ Ob ?_
              clear hK Ob
              try simp only [Act.put, List.setIfInBounds_toArray, List.set_cons_zero, List.set_cons_succ]
              refine wpGrow_take (i := 34) (oi := ⟨some 223, _, _, _, _, _⟩) (v := ?av34) rfl (by kernel_rfl) (by kernel_rfl) (by kernel_rfl) (fun _ _ _ h => h) (by kernel_rfl) ?ay34 ?ar34
              case ay34 =>
                intro wt hO
                go_simp
                try with_reducible rfl
              try simp only [Act.put, List.setIfInBounds_toArray, List.set_cons_zero, List.set_cons_succ]
              refine wpGrow_take (i := 35) (oi := ⟨some 224, _, _, _, _, _⟩) (v := ?av35) rfl (by kernel_rfl) (by kernel_rfl) (by kernel_rfl) (fun _ _ _ h => h) (by kernel_rfl) ?ay35 ?ar35
              case ay35 =>
                intro wt hO
                go_simp
                try with_reducible rfl
              try simp only [Act.put, List.setIfInBounds_toArray, List.set_cons_zero, List.set_cons_succ]
              refine wpGrow_take (i := 36) (oi := ⟨some 225, _, _, _, _, _⟩) (v := ?av36) rfl (by kernel_rfl) (by kernel_rfl) (by kernel_rfl) (fun _ _ _ h => h) (by kernel_rfl) ?ay36 ?ar36
              case ay36 =>
                intro wt hO
                go_simp
                try with_reducible rfl
              try simp only [Act.put, List.setIfInBounds_toArray, List.set_cons_zero, List.set_cons_succ]
              refine wpGrow_take (i := 37) (oi := ⟨some 226, _, _, _, _, _⟩) (v := ?av37) rfl (by kernel_rfl) (by kernel_rfl) (by kernel_rfl) (fun _ _ _ h => h) (by kernel_rfl) ?ay37 ?ar37
              case ay37 =>
                intro wt hO
                go_simp
                try with_reducible rfl
              try simp only [Act.put, List.setIfInBounds_toArray, List.set_cons_zero, List.set_cons_succ]
              refine wpGrow_take (i := 39) (oi := ⟨some 228, _, _, _, _, _⟩) (v := ?av39) rfl (by kernel_rfl) (by kernel_rfl) (by kernel_rfl) (fun _ _ _ h => h) (by kernel_rfl) ?ay39 ?ar39
              case ay39 =>
                intro wt hO
                go_simp
                try with_reducible rfl
              try simp only [Act.put, List.setIfInBounds_toArray, List.set_cons_zero, List.set_cons_succ]
              refine wpGrow_take (i := 40) (oi := ⟨some 229, _, _, _, _, _⟩) (v := ?av40) rfl (by kernel_rfl) (by kernel_rfl) (by kernel_rfl) (fun _ _ _ h => h) (by kernel_rfl) ?ay40 ?ar40
              case ay40 =>
                intro wt hO
                go_simp
                try with_reducible rfl
              try simp only [Act.put, List.setIfInBounds_toArray, List.set_cons_zero, List.set_cons_succ]
              refine wpGrow_take (i := 41) (oi := ⟨some 230, _, _, _, _, _⟩) (v := ?av41) rfl (by kernel_rfl) (by kernel_rfl) (by kernel_rfl) (fun _ _ _ h => h) (by kernel_rfl) ?ay41 ?ar41
              case ay41 =>
                intro wt hO
                go_simp
                try with_reducible rfl
              try simp only [Act.put, List.setIfInBounds_toArray, List.set_cons_zero, List.set_cons_succ]
              refine wpGrow_take (i := 42) (oi := ⟨some 231, _, _, _, _, _⟩) (v := ?av42) rfl (by kernel_rfl) (by kernel_rfl) (by kernel_rfl) (fun _ _ _ h => h) (by kernel_rfl) ?ay42 ?ar42
              case ay42 =>
                intro wt hO
                obtain ⟨q6, q4, q1⟩ := HC.out wt (HO3.out.trans hO); go_simp
                try with_reducible rfl
              try simp only [Act.put, List.setIfInBounds_toArray, List.set_cons_zero, List.set_cons_succ]
              refine wpGrow_call (i := 38) (o := ⟨some 227, _, _, _, _, _⟩) rfl (by kernel_rfl) (by kernel_rfl) (fun K hK => ?_)
              go_simp
              refine (HCf.out _ HO3.out).mono ?_
              rintro ye wm ⟨rfl, hwm⟩
              subst hwm
              refine hK.out _ _ (Touch.refl _ _) ?_
              clear hK
              try simp only [Act.put, List.setIfInBounds_toArray, List.set_cons_zero, List.set_cons_succ]
              refine wpGrow_take (i := 43) (oi := ⟨some 232, _, _, _, _, _⟩) (v := ?av43) rfl (by kernel_rfl) (by kernel_rfl) (by kernel_rfl) (fun _ _ _ h => h) (by kernel_rfl) ?ay43 ?ar43
              case ay43 =>
                intro wt hO
                go_simp
                try with_reducible rfl
              try simp only [Act.put, List.setIfInBounds_toArray, List.set_cons_zero, List.set_cons_succ]
              refine wpGrow_take (i := 44) (oi := ⟨some 233, _, _, _, _, _⟩) (v := ?av44) rfl (by kernel_rfl) (by kernel_rfl) (by kernel_rfl) (fun _ _ _ h => h) (by kernel_rfl) ?ay44 ?ar44
              case ay44 =>
                intro wt hO
                go_simp
                try with_reducible rfl
              try simp only [Act.put, List.setIfInBounds_toArray, List.set_cons_zero, List.set_cons_succ]
              refine wpGrow_take (i := 45) (oi := ⟨some 234, _, _, _, _, _⟩) (v := ?av45) rfl (by kernel_rfl) (by kernel_rfl) (by kernel_rfl) (fun _ _ _ h => h) (by kernel_rfl) ?ay45 ?ar45
              case ay45 =>
                intro wt hO
                go_simp
                try with_reducible rfl
              try simp only [Act.put, List.setIfInBounds_toArray, List.set_cons_zero, List.set_cons_succ]
              refine wpGrow_take (i := 46) (oi := ⟨some 235, _, _, _, _, _⟩) (v := ?av46) rfl (by kernel_rfl) (by kernel_rfl) (by kernel_rfl) (fun _ _ _ h => h) (by kernel_rfl) ?ay46 ?ar46
              case ay46 =>
                intro wt hO
                go_simp
                try with_reducible rfl
              try simp only [Act.put, List.setIfInBounds_toArray, List.set_cons_zero, List.set_cons_succ]
              refine wpGrow_take (i := 49) (oi := ⟨some 238, _, _, _, _, _⟩) (v := ?av49) rfl (by kernel_rfl) (by kernel_rfl) (by kernel_rfl) (fun _ _ _ h => h) (by kernel_rfl) ?ay49 ?ar49
              case ay49 =>
                intro wt hO
                go_simp
                try with_reducible rfl
              try simp only [Act.put, List.setIfInBounds_toArray, List.set_cons_zero, List.set_cons_succ]
              refine wpGrow_take (i := 50) (oi := ⟨some 239, _, _, _, _, _⟩) (v := ?av50) rfl (by kernel_rfl) (by kernel_rfl) (by kernel_rfl) (fun _ _ _ h => h) (by kernel_rfl) ?ay50 ?ar50
              case ay50 =>
                intro wt hO
                go_simp
                try with_reducible rfl
              try simp only [Act.put, List.setIfInBounds_toArray, List.set_cons_zero, List.set_cons_succ]
              refine wpGrow_take (i := 51) (oi := ⟨some 240, _, _, _, _, _⟩) (v := ?av51) rfl (by kernel_rfl) (by kernel_rfl) (by kernel_rfl) (fun _ _ _ h => h) (by kernel_rfl) ?ay51 ?ar51
              case ay51 =>
                intro wt hO
                go_simp
                try with_reducible rfl
              try simp only [Act.put, List.setIfInBounds_toArray, List.set_cons_zero, List.set_cons_succ]
              refine wpGrow_take (i := 52) (oi := ⟨some 241, _, _, _, _, _⟩) (v := ?av52) rfl (by kernel_rfl) (by kernel_rfl) (by kernel_rfl) (fun _ _ _ h => h) (by kernel_rfl) ?ay52 ?ar52
              case ay52 =>
                intro wt hO
                obtain ⟨q6, q4, q1⟩ := HC.out wt (HO3.out.trans hO); go_simp
                try with_reducible rfl
              try simp only [Act.put, List.setIfInBounds_toArray, List.set_cons_zero, List.set_cons_succ]
              refine wpGrow_take (i := 53) (oi := ⟨some 242, _, _, _, _, _⟩) (v := ?av53) rfl (by kernel_rfl) (by kernel_rfl) (by kernel_rfl) (fun _ _ _ h => h) (by kernel_rfl) ?ay53 ?ar53
              case ay53 =>
                intro wt hO
                go_simp
                try with_reducible rfl
              try simp only [Act.put, List.setIfInBounds_toArray, List.set_cons_zero, List.set_cons_succ]
              refine wpGrow_call (i := 47) (o := ⟨some 236, _, _, _, _, _⟩) rfl (by kernel_rfl) (by kernel_rfl) (fun K hK => ?_)
              go_simp
              refine (HCg.out _ HO3.out).mono ?_
              rintro ye wb ⟨gf, rfl, Ob⟩
              have HO4 := Lib.hid (HO3.out.trans Ob)
              refine hK.out _ _ Ob ?_
              clear hK Ob
              try simp only [Act.put, List.setIfInBounds_toArray, List.set_cons_zero, List.set_cons_succ]
              refine wpGrow_take (i := 48) (oi := ⟨some 237, _, _, _, _, _⟩) (v := ?av48) rfl (by kernel_rfl) (by kernel_rfl) (by kernel_rfl) (fun _ _ _ h => h) (by kernel_rfl) ?ay48 ?ar48
              case ay48 =>
                intro wt hO
                go_simp
                try with_reducible rfl
              try simp only [Act.put, List.setIfInBounds_toArray, List.set_cons_zero, List.set_cons_succ]
              refine wpGrow_take (i := 54) (oi := ⟨some 243, _, _, _, _, _⟩) (v := ?av54) rfl (by kernel_rfl) (by kernel_rfl) (by kernel_rfl) (fun _ _ _ h => h) (by kernel_rfl) ?ay54 ?ar54
              case ay54 =>
                intro wt hO
                go_simp
                try with_reducible rfl
              try simp only [Act.put, List.setIfInBounds_toArray, List.set_cons_zero, List.set_cons_succ]
              refine wpGrow_take (i := 55) (oi := ⟨some 244, _, _, _, _, _⟩) (v := ?av55) rfl (by kernel_rfl) (by kernel_rfl) (by kernel_rfl) (fun _ _ _ h => h) (by kernel_rfl) ?ay55 ?ar55
              case ay55 =>
                intro wt hO
                go_simp
                try with_reducible rfl
              try simp only [Act.put, List.setIfInBounds_toArray, List.set_cons_zero, List.set_cons_succ]
              refine wpGrow_done (by kernel_rfl) ?_ _
              have HF := Lib.hid (HW.out _ HO4.out)
              go_wp2_with fail
              go_meet
              exact ⟨rfl, HF⟩
            · rw [hlo] at HC HCa
              clear hlo
              refine wp_region_grow (by kernel_rfl) ?_
              refine wpGrow_take (i := 0) (oi := ⟨some 189, _, _, _, _, _⟩) (v := ?bv0) rfl (by kernel_rfl) (by kernel_rfl) (by kernel_rfl) (fun _ _ _ h => h) (by kernel_rfl) ?by0 ?br0
              case by0 =>
                intro wt hO
                go_simp
                try with_reducible rfl
              try simp only [Act.put, List.setIfInBounds_toArray, List.set_cons_zero, List.set_cons_succ]
              refine wpGrow_take (i := 1) (oi := ⟨some 190, _, _, _, _, _⟩) (v := ?bv1) rfl (by kernel_rfl) (by kernel_rfl) (by kernel_rfl) (fun _ _ _ h => h) (by kernel_rfl) ?by1 ?br1
              case by1 =>
                intro wt hO
                go_simp
                try with_reducible rfl
              try simp only [Act.put, List.setIfInBounds_toArray, List.set_cons_zero, List.set_cons_succ]
              refine wpGrow_take (i := 2) (oi := ⟨some 191, _, _, _, _, _⟩) (v := ?bv2) rfl (by kernel_rfl) (by kernel_rfl) (by kernel_rfl) (fun _ _ _ h => h) (by kernel_rfl) ?by2 ?br2
              case by2 =>
                intro wt hO
                go_simp
                try with_reducible rfl
              try simp only [Act.put, List.setIfInBounds_toArray, List.set_cons_zero, List.set_cons_succ]
              refine wpGrow_take (i := 3) (oi := ⟨some 192, _, _, _, _, _⟩) (v := ?bv3) rfl (by kernel_rfl) (by kernel_rfl) (by kernel_rfl) (fun _ _ _ h => h) (by kernel_rfl) ?by3 ?br3
              case by3 =>
                intro wt hO
                go_simp
                try with_reducible rfl
              try simp only [Act.put, List.setIfInBounds_toArray, List.set_cons_zero, List.set_cons_succ]
              refine wpGrow_take (i := 4) (oi := ⟨some 193, _, _, _, _, _⟩) (v := ?bv4) rfl (by kernel_rfl) (by kernel_rfl) (by kernel_rfl) (fun _ _ _ h => h) (by kernel_rfl) ?by4 ?br4
              case by4 =>
                intro wt hO
                go_simp
                try with_reducible rfl
              try simp only [Act.put, List.setIfInBounds_toArray, List.set_cons_zero, List.set_cons_succ]
              refine wpGrow_take (i := 5) (oi := ⟨some 194, _, _, _, _, _⟩) (v := ?bv5) rfl (by kernel_rfl) (by kernel_rfl) (by kernel_rfl) (fun _ _ _ h => h) (by kernel_rfl) ?by5 ?br5
              case by5 =>
                intro wt hO
                go_simp
                try with_reducible rfl
              try simp only [Act.put, List.setIfInBounds_toArray, List.set_cons_zero, List.set_cons_succ]
              refine wpGrow_take (i := 6) (oi := ⟨some 195, _, _, _, _, _⟩) (v := ?bv6) rfl (by kernel_rfl) (by kernel_rfl) (by kernel_rfl) (fun _ _ _ h => h) (by kernel_rfl) ?by6 ?br6
              case by6 =>
                intro wt hO
                go_simp
                try with_reducible rfl
              try simp only [Act.put, List.setIfInBounds_toArray, List.set_cons_zero, List.set_cons_succ]
              refine wpGrow_take (i := 7) (oi := ⟨some 196, _, _, _, _, _⟩) (v := ?bv7) rfl (by kernel_rfl) (by kernel_rfl) (by kernel_rfl) (fun _ _ _ h => h) (by kernel_rfl) ?by7 ?br7
              case by7 =>
                intro wt hO
                go_simp
                try with_reducible rfl
              try simp only [Act.put, List.setIfInBounds_toArray, List.set_cons_zero, List.set_cons_succ]
              refine wpGrow_take (i := 9) (oi := ⟨some 198, _, _, _, _, _⟩) (v := ?bv9) rfl (by kernel_rfl) (by kernel_rfl) (by kernel_rfl) (fun _ _ _ h => h) (by kernel_rfl) ?by9 ?br9
              case by9 =>
                intro wt hO
                go_simp
                try with_reducible rfl
              try simp only [Act.put, List.setIfInBounds_toArray, List.set_cons_zero, List.set_cons_succ]
              refine wpGrow_take (i := 10) (oi := ⟨some 199, _, _, _, _, _⟩) (v := ?bv10) rfl (by kernel_rfl) (by kernel_rfl) (by kernel_rfl) (fun _ _ _ h => h) (by kernel_rfl) ?by10 ?br10
              case by10 =>
                intro wt hO
                go_simp
                try with_reducible rfl
              try simp only [Act.put, List.setIfInBounds_toArray, List.set_cons_zero, List.set_cons_succ]
              refine wpGrow_take (i := 11) (oi := ⟨some 200, _, _, _, _, _⟩) (v := ?bv11) rfl (by kernel_rfl) (by kernel_rfl) (by kernel_rfl) (fun _ _ _ h => h) (by kernel_rfl) ?by11 ?br11
              case by11 =>
                intro wt hO
                go_simp
                try with_reducible rfl
              try simp only [Act.put, List.setIfInBounds_toArray, List.set_cons_zero, List.set_cons_succ]
              refine wpGrow_take (i := 12) (oi := ⟨some 201, _, _, _, _, _⟩) (v := ?bv12) rfl (by kernel_rfl) (by kernel_rfl) (by kernel_rfl) (fun _ _ _ h => h) (by kernel_rfl) ?by12 ?br12
              case by12 =>
                intro wt hO
                obtain ⟨q6, q4, q1⟩ := HC.out wt (HO0.out.trans hO); go_simp
                try with_reducible rfl
              try simp only [Act.put, List.setIfInBounds_toArray, List.set_cons_zero, List.set_cons_succ]
              refine wpGrow_call (i := 8) (o := ⟨some 197, _, _, _, _, _⟩) rfl (by kernel_rfl) (by kernel_rfl) (fun K hK => ?_)
              go_simp
              refine (HCa.out _ HO0.out).mono ?_
              rintro ye wm ⟨rfl, hwm⟩
              subst hwm
              refine hK.out _ _ (Touch.refl _ _) ?_
              clear hK
              try simp only [Act.put, List.setIfInBounds_toArray, List.set_cons_zero, List.set_cons_succ]
              refine wpGrow_take (i := 13) (oi := ⟨some 202, _, _, _, _, _⟩) (v := ?bv13) rfl (by kernel_rfl) (by kernel_rfl) (by kernel_rfl) (fun _ _ _ h => h) (by kernel_rfl) ?by13 ?br13
              case by13 =>
                intro wt hO
                go_simp
                try with_reducible rfl
              try simp only [Act.put, List.setIfInBounds_toArray, List.set_cons_zero, List.set_cons_succ]
              refine wpGrow_take (i := 14) (oi := ⟨some 203, _, _, _, _, _⟩) (v := ?bv14) rfl (by kernel_rfl) (by kernel_rfl) (by kernel_rfl) (fun _ _ _ h => h) (by kernel_rfl) ?by14 ?br14
              case by14 =>
                intro wt hO
                go_simp
                try with_reducible rfl
              try simp only [Act.put, List.setIfInBounds_toArray, List.set_cons_zero, List.set_cons_succ]
              refine wpGrow_take (i := 15) (oi := ⟨some 204, _, _, _, _, _⟩) (v := ?bv15) rfl (by kernel_rfl) (by kernel_rfl) (by kernel_rfl) (fun _ _ _ h => h) (by kernel_rfl) ?by15 ?br15
              case by15 =>
                intro wt hO
                go_simp
                try with_reducible rfl
              try simp only [Act.put, List.setIfInBounds_toArray, List.set_cons_zero, List.set_cons_succ]
              refine wpGrow_take (i := 16) (oi := ⟨some 205, _, _, _, _, _⟩) (v := ?bv16) rfl (by kernel_rfl) (by kernel_rfl) (by kernel_rfl) (fun _ _ _ h => h) (by kernel_rfl) ?by16 ?br16
              case by16 =>
                intro wt hO
                go_simp
                try with_reducible rfl
              try simp only [Act.put, List.setIfInBounds_toArray, List.set_cons_zero, List.set_cons_succ]
              refine wpGrow_take (i := 17) (oi := ⟨some 206, _, _, _, _, _⟩) (v := ?bv17) rfl (by kernel_rfl) (by kernel_rfl) (by kernel_rfl) (fun _ _ _ h => h) (by kernel_rfl) ?by17 ?br17
              case by17 =>
                intro wt hO
                go_simp
                try with_reducible rfl
              try simp only [Act.put, List.setIfInBounds_toArray, List.set_cons_zero, List.set_cons_succ]
              refine wpGrow_take (i := 18) (oi := ⟨some 207, _, _, _, _, _⟩) (v := ?bv18) rfl (by kernel_rfl) (by kernel_rfl) (by kernel_rfl) (fun _ _ _ h => h) (by kernel_rfl) ?by18 ?br18
              case by18 =>
                intro wt hO
                go_simp
                try with_reducible rfl
              try simp only [Act.put, List.setIfInBounds_toArray, List.set_cons_zero, List.set_cons_succ]
              refine wpGrow_take (i := 19) (oi := ⟨some 208, _, _, _, _, _⟩) (v := ?bv19) rfl (by kernel_rfl) (by kernel_rfl) (by kernel_rfl) (fun _ _ _ h => h) (by kernel_rfl) ?by19 ?br19
              case by19 =>
                intro wt hO
                obtain ⟨q6, q4, q1⟩ := HC.out wt (HO0.out.trans hO); go_simp
                try with_reducible rfl
              try simp only [Act.put, List.setIfInBounds_toArray, List.set_cons_zero, List.set_cons_succ]
              refine wpGrow_take (i := 20) (oi := ⟨some 209, _, _, _, _, _⟩) (v := ?bv20) rfl (by kernel_rfl) (by kernel_rfl) (by kernel_rfl) (fun _ _ _ h => h) (by kernel_rfl) ?by20 ?br20
              case by20 =>
                intro wt hO
                go_simp
                try with_reducible rfl
              try simp only [Act.put, List.setIfInBounds_toArray, List.set_cons_zero, List.set_cons_succ]
              refine wpGrow_take (i := 21) (oi := ⟨some 210, _, _, _, _, _⟩) (v := ?bv21) rfl (by kernel_rfl) (by kernel_rfl) (by kernel_rfl) (fun _ _ _ h => h) (by kernel_rfl) ?by21 ?br21
              case by21 =>
                intro wt hO
                go_simp
                try with_reducible rfl
              try simp only [Act.put, List.setIfInBounds_toArray, List.set_cons_zero, List.set_cons_succ]
              refine wpGrow_skip (i := 22) (oi := ⟨some 211, _, _, _, _, _⟩) rfl (by kernel_rfl) (by kernel_rfl) (by kernel_rfl) (fun _ _ _ h => h) (by kernel_rfl) ?_
              try simp only [Act.put, List.setIfInBounds_toArray, List.set_cons_zero, List.set_cons_succ]
              refine wpGrow_skip (i := 24) (oi := ⟨some 213, _, _, _, _, _⟩) rfl (by kernel_rfl) (by kernel_rfl) (by kernel_rfl) (fun _ _ _ h => h) (by kernel_rfl) ?_
              try simp only [Act.put, List.setIfInBounds_toArray, List.set_cons_zero, List.set_cons_succ]
              refine wpGrow_skip (i := 23) (oi := ⟨some 212, _, _, _, _, _⟩) rfl (by kernel_rfl) (by kernel_rfl) (by kernel_rfl) (fun _ _ _ h => h) (by kernel_rfl) ?_
              try simp only [Act.put, List.setIfInBounds_toArray, List.set_cons_zero, List.set_cons_succ]
              refine wpGrow_skip (i := 25) (oi := ⟨some 214, _, _, _, _, _⟩) rfl (by kernel_rfl) (by kernel_rfl) (by kernel_rfl) (fun _ _ _ h => h) (by kernel_rfl) ?_
              try simp only [Act.put, List.setIfInBounds_toArray, List.set_cons_zero, List.set_cons_succ]
              refine wpGrow_skip (i := 26) (oi := ⟨some 215, _, _, _, _, _⟩) rfl (by kernel_rfl) (by kernel_rfl) (by kernel_rfl) (fun _ _ _ h => h) (by kernel_rfl) ?_
              try simp only [Act.put, List.setIfInBounds_toArray, List.set_cons_zero, List.set_cons_succ]
              refine wpGrow_take (i := 27) (oi := ⟨some 216, _, _, _, _, _⟩) (v := ?bv27) rfl (by kernel_rfl) (by kernel_rfl) (by kernel_rfl) (fun _ _ _ h => h) (by kernel_rfl) ?by27 ?br27
              case by27 =>
                intro wt hO
                go_simp
                try with_reducible rfl
              try simp only [Act.put, List.setIfInBounds_toArray, List.set_cons_zero, List.set_cons_succ]
              refine wpGrow_take (i := 28) (oi := ⟨some 217, _, _, _, _, _⟩) (v := ?bv28) rfl (by kernel_rfl) (by kernel_rfl) (by kernel_rfl) (fun _ _ _ h => h) (by kernel_rfl) ?by28 ?br28
              case by28 =>
                intro wt hO
                go_simp
                try with_reducible rfl
              try simp only [Act.put, List.setIfInBounds_toArray, List.set_cons_zero, List.set_cons_succ]
              refine wpGrow_take (i := 29) (oi := ⟨some 218, _, _, _, _, _⟩) (v := ?bv29) rfl (by kernel_rfl) (by kernel_rfl) (by kernel_rfl) (fun _ _ _ h => h) (by kernel_rfl) ?by29 ?br29
              case by29 =>
                intro wt hO
                go_simp
                try with_reducible rfl
              try simp only [Act.put, List.setIfInBounds_toArray, List.set_cons_zero, List.set_cons_succ]
              refine wpGrow_take (i := 30) (oi := ⟨some 219, _, _, _, _, _⟩) (v := ?bv30) rfl (by kernel_rfl) (by kernel_rfl) (by kernel_rfl) (fun _ _ _ h => h) (by kernel_rfl) ?by30 ?br30
              case by30 =>
                intro wt hO
                go_simp
                try with_reducible rfl
              try simp only [Act.put, List.setIfInBounds_toArray, List.set_cons_zero, List.set_cons_succ]
              refine wpGrow_take (i := 32) (oi := ⟨some 221, _, _, _, _, _⟩) (v := ?bv32) rfl (by kernel_rfl) (by kernel_rfl) (by kernel_rfl) (fun _ _ _ h => h) (by kernel_rfl) ?by32 ?br32
              case by32 =>
                intro wt hO
                go_simp
                try with_reducible rfl
              try simp only [Act.put, List.setIfInBounds_toArray, List.set_cons_zero, List.set_cons_succ]
              refine wpGrow_call (i := 31) (o := ⟨some 220, _, _, _, _, _⟩) rfl (by kernel_rfl) (by kernel_rfl) (fun K hK => ?_)
              go_simp
              refine (HCd.out _ HO0.out).mono ?_
              rintro ye wm ⟨rfl, hwm⟩
              subst hwm
              refine hK.out _ _ (Touch.refl _ _) ?_
              clear hK
              try simp only [Act.put, List.setIfInBounds_toArray, List.set_cons_zero, List.set_cons_succ]
              refine wpGrow_call (i := 33) (o := ⟨some 222, _, _, _, _, _⟩) rfl (by kernel_rfl) (by kernel_rfl) (fun K hK => ?_)
              go_simp
              refine (HCe.out _ HO0.out).mono ?_
              rintro ye wb ⟨rfl, Ob⟩
              have HO3 := Lib.hid (HO0.out.trans Ob)
              refine hK.out _ _ Ob ?_
              clear hK Ob
              try simp only [Act.put, List.setIfInBounds_toArray, List.set_cons_zero, List.set_cons_succ]
              refine wpGrow_take (i := 34) (oi := ⟨some 223, _, _, _, _, _⟩) (v := ?bv34) rfl (by kernel_rfl) (by kernel_rfl) (by kernel_rfl) (fun _ _ _ h => h) (by kernel_rfl) ?by34 ?br34
              case by34 =>
                intro wt hO
                go_simp
                try with_reducible rfl
              try simp only [Act.put, List.setIfInBounds_toArray, List.set_cons_zero, List.set_cons_succ]
              refine wpGrow_take (i := 35) (oi := ⟨some 224, _, _, _, _, _⟩) (v := ?bv35) rfl (by kernel_rfl) (by kernel_rfl) (by kernel_rfl) (fun _ _ _ h => h) (by kernel_rfl) ?by35 ?br35
              case by35 =>
                intro wt hO
                go_simp
                try with_reducible rfl
              try simp only [Act.put, List.setIfInBounds_toArray, List.set_cons_zero, List.set_cons_succ]
              refine wpGrow_take (i := 36) (oi := ⟨some 225, _, _, _, _, _⟩) (v := ?bv36) rfl (by kernel_rfl) (by kernel_rfl) (by kernel_rfl) (fun _ _ _ h => h) (by kernel_rfl) ?by36 ?br36
              case by36 =>
                intro wt hO
                go_simp
                try with_reducible rfl
              try simp only [Act.put, List.setIfInBounds_toArray, List.set_cons_zero, List.set_cons_succ]
              refine wpGrow_take (i := 37) (oi := ⟨some 226, _, _, _, _, _⟩) (v := ?bv37) rfl (by kernel_rfl) (by kernel_rfl) (by kernel_rfl) (fun _ _ _ h => h) (by kernel_rfl) ?by37 ?br37
              case by37 =>
                intro wt hO
                go_simp
                try with_reducible rfl
              try simp only [Act.put, List.setIfInBounds_toArray, List.set_cons_zero, List.set_cons_succ]
              refine wpGrow_take (i := 39) (oi := ⟨some 228, _, _, _, _, _⟩) (v := ?bv39) rfl (by kernel_rfl) (by kernel_rfl) (by kernel_rfl) (fun _ _ _ h => h) (by kernel_rfl) ?by39 ?br39
              case by39 =>
                intro wt hO
                go_simp
                try with_reducible rfl
              try simp only [Act.put, List.setIfInBounds_toArray, List.set_cons_zero, List.set_cons_succ]
              refine wpGrow_take (i := 40) (oi := ⟨some 229, _, _, _, _, _⟩) (v := ?bv40) rfl (by kernel_rfl) (by kernel_rfl) (by kernel_rfl) (fun _ _ _ h => h) (by kernel_rfl) ?by40 ?br40
              case by40 =>
                intro wt hO
                go_simp
                try with_reducible rfl
              try simp only [Act.put, List.setIfInBounds_toArray, List.set_cons_zero, List.set_cons_succ]
              refine wpGrow_take (i := 41) (oi := ⟨some 230, _, _, _, _, _⟩) (v := ?bv41) rfl (by kernel_rfl) (by kernel_rfl) (by kernel_rfl) (fun _ _ _ h => h) (by kernel_rfl) ?by41 ?br41
              case by41 =>
                intro wt hO
                go_simp
                try with_reducible rfl
              try simp only [Act.put, List.setIfInBounds_toArray, List.set_cons_zero, List.set_cons_succ]
              refine wpGrow_take (i := 42) (oi := ⟨some 231, _, _, _, _, _⟩) (v := ?bv42) rfl (by kernel_rfl) (by kernel_rfl) (by kernel_rfl) (fun _ _ _ h => h) (by kernel_rfl) ?by42 ?br42
              case by42 =>
                intro wt hO
                obtain ⟨q6, q4, q1⟩ := HC.out wt (HO3.out.trans hO); go_simp
                try with_reducible rfl
              try simp only [Act.put, List.setIfInBounds_toArray, List.set_cons_zero, List.set_cons_succ]
              refine wpGrow_call (i := 38) (o := ⟨some 227, _, _, _, _, _⟩) rfl (by kernel_rfl) (by kernel_rfl) (fun K hK => ?_)
              go_simp
              refine (HCf.out _ HO3.out).mono ?_
              rintro ye wm ⟨rfl, hwm⟩
              subst hwm
              refine hK.out _ _ (Touch.refl _ _) ?_
              clear hK
              try simp only [Act.put, List.setIfInBounds_toArray, List.set_cons_zero, List.set_cons_succ]
              refine wpGrow_take (i := 43) (oi := ⟨some 232, _, _, _, _, _⟩) (v := ?bv43) rfl (by kernel_rfl) (by kernel_rfl) (by kernel_rfl) (fun _ _ _ h => h) (by kernel_rfl) ?by43 ?br43
              case by43 =>
                intro wt hO
                go_simp
                try with_reducible rfl
              try simp only [Act.put, List.setIfInBounds_toArray, List.set_cons_zero, List.set_cons_succ]
              refine wpGrow_take (i := 44) (oi := ⟨some 233, _, _, _, _, _⟩) (v := ?bv44) rfl (by kernel_rfl) (by kernel_rfl) (by kernel_rfl) (fun _ _ _ h => h) (by kernel_rfl) ?by44 ?br44
              case by44 =>
                intro wt hO
                go_simp
                try with_reducible rfl
              try simp only [Act.put, List.setIfInBounds_toArray, List.set_cons_zero, List.set_cons_succ]
              refine wpGrow_take (i := 45) (oi := ⟨some 234, _, _, _, _, _⟩) (v := ?bv45) rfl (by kernel_rfl) (by kernel_rfl) (by kernel_rfl) (fun _ _ _ h => h) (by kernel_rfl) ?by45 ?br45
              case by45 =>
                intro wt hO
                go_simp
                try with_reducible rfl
              try simp only [Act.put, List.setIfInBounds_toArray, List.set_cons_zero, List.set_cons_succ]
              refine wpGrow_take (i := 46) (oi := ⟨some 235, _, _, _, _, _⟩) (v := ?bv46) rfl (by kernel_rfl) (by kernel_rfl) (by kernel_rfl) (fun _ _ _ h => h) (by kernel_rfl) ?by46 ?br46
              case by46 =>
                intro wt hO
                go_simp
                try with_reducible rfl
              try simp only [Act.put, List.setIfInBounds_toArray, List.set_cons_zero, List.set_cons_succ]
              refine wpGrow_take (i := 49) (oi := ⟨some 238, _, _, _, _, _⟩) (v := ?bv49) rfl (by kernel_rfl) (by kernel_rfl) (by kernel_rfl) (fun _ _ _ h => h) (by kernel_rfl) ?by49 ?br49
              case by49 =>
                intro wt hO
                go_simp
                try with_reducible rfl
              try simp only [Act.put, List.setIfInBounds_toArray, List.set_cons_zero, List.set_cons_succ]
              refine wpGrow_take (i := 50) (oi := ⟨some 239, _, _, _, _, _⟩) (v := ?bv50) rfl (by kernel_rfl) (by kernel_rfl) (by kernel_rfl) (fun _ _ _ h => h) (by kernel_rfl) ?by50 ?br50
              case by50 =>
                intro wt hO
                go_simp
                try with_reducible rfl
              try simp only [Act.put, List.setIfInBounds_toArray, List.set_cons_zero, List.set_cons_succ]
              refine wpGrow_take (i := 51) (oi := ⟨some 240, _, _, _, _, _⟩) (v := ?bv51) rfl (by kernel_rfl) (by kernel_rfl) (by kernel_rfl) (fun _ _ _ h => h) (by kernel_rfl) ?by51 ?br51
              case by51 =>
                intro wt hO
                go_simp
                try with_reducible rfl
              try simp only [Act.put, List.setIfInBounds_toArray, List.set_cons_zero, List.set_cons_succ]
              refine wpGrow_take (i := 52) (oi := ⟨some 241, _, _, _, _, _⟩) (v := ?bv52) rfl (by kernel_rfl) (by kernel_rfl) (by kernel_rfl) (fun _ _ _ h => h) (by kernel_rfl) ?by52 ?br52
              case by52 =>
                intro wt hO
                obtain ⟨q6, q4, q1⟩ := HC.out wt (HO3.out.trans hO); go_simp
                try with_reducible rfl
              try simp only [Act.put, List.setIfInBounds_toArray, List.set_cons_zero, List.set_cons_succ]
              refine wpGrow_take (i := 53) (oi := ⟨some 242, _, _, _, _, _⟩) (v := ?bv53) rfl (by kernel_rfl) (by kernel_rfl) (by kernel_rfl) (fun _ _ _ h => h) (by kernel_rfl) ?by53 ?br53
              case by53 =>
                intro wt hO
                go_simp
                try with_reducible rfl
              try simp only [Act.put, List.setIfInBounds_toArray, List.set_cons_zero, List.set_cons_succ]
              refine wpGrow_call (i := 47) (o := ⟨some 236, _, _, _, _, _⟩) rfl (by kernel_rfl) (by kernel_rfl) (fun K hK => ?_)
              go_simp
              refine (HCg.out _ HO3.out).mono ?_
              rintro ye wb ⟨gf, rfl, Ob⟩
              have HO4 := Lib.hid (HO3.out.trans Ob)
              refine hK.out _ _ Ob ?_
              clear hK Ob
              try simp only [Act.put, List.setIfInBounds_toArray, List.set_cons_zero, List.set_cons_succ]
              refine wpGrow_take (i := 48) (oi := ⟨some 237, _, _, _, _, _⟩) (v := ?bv48) rfl (by kernel_rfl) (by kernel_rfl) (by kernel_rfl) (fun _ _ _ h => h) (by kernel_rfl) ?by48 ?br48
              case by48 =>
                intro wt hO
                go_simp
                try with_reducible rfl
              try simp only [Act.put, List.setIfInBounds_toArray, List.set_cons_zero, List.set_cons_succ]
              refine wpGrow_take (i := 54) (oi := ⟨some 243, _, _, _, _, _⟩) (v := ?bv54) rfl (by kernel_rfl) (by kernel_rfl) (by kernel_rfl) (fun _ _ _ h => h) (by kernel_rfl) ?by54 ?br54
              case by54 =>
                intro wt hO
                go_simp
                try with_reducible rfl
              try simp only [Act.put, List.setIfInBounds_toArray, List.set_cons_zero, List.set_cons_succ]
              refine wpGrow_take (i := 55) (oi := ⟨some 244, _, _, _, _, _⟩) (v := ?bv55) rfl (by kernel_rfl) (by kernel_rfl) (by kernel_rfl) (fun _ _ _ h => h) (by kernel_rfl) ?by55 ?br55
              case by55 =>
                intro wt hO
                go_simp
                try with_reducible rfl
              try simp only [Act.put, List.setIfInBounds_toArray, List.set_cons_zero, List.set_cons_succ]
              refine wpGrow_done (by kernel_rfl) ?_ _
              have HF := Lib.hid (HW.out _ HO4.out)
              go_wp2_with fail
              go_meet
              exact ⟨rfl, HF⟩
        case rest =>
          as_aux_lemma =>
            obtain ⟨rfl, HT2⟩ := hcut
            clear HT'
            rename World => w9
            go_wp2_with fail
            go_loopw [27] (fun i wx => ∃ k : Nat, k ≤ nT ∧ i = .int .i64 k ∧ Hid (Two w w3 nT d z lp' rp' (t + 1) L' wx)) (fun i _ => nT - (intOf i).toNat)
            case atStart => exact ⟨0, by omega, rfl, HT2⟩
            case round =>
              obtain ⟨k, hk, rfl, HK⟩ := hrel
              clear HT2
              by_cases hlt : k < nT
              · as_aux_lemma =>
                  have j1 : (k : Int) < (nT : Int) := by omega
                  go_wp2_with fail
                  refine (two_dlook HK.out k hlt).mono ?_
                  rintro x wa ⟨p1, l1, c1, rfl, H1, hl1, O1⟩
                  have HK1 := Lib.hid (HK.out.old O1)
                  have HH1 := Lib.hid H1
                  have Hl1 := Lib.hid hl1
                  clear H1 hl1 O1 HK
                  go_wp2_with fail
                  refine (two_rdlook HK1.out (by omega) k hlt).mono ?_
                  rintro x wb ⟨p2, l2, c2, rfl, H2, hl2, O2⟩
                  have HK2 := Lib.hid (HK1.out.old O2)
                  have hs1 := str_any wb p1 _ l1 c1 (HH1.out.old O2) Hl1.out
                  have hs2 := str_any wb p2 _ l2 c2 H2 hl2
                  clear H2 hl2 O2 HK1 HH1 Hl1
                  generalize strOf (lookB L'.D k) = sb at *
                  generalize lookE L'.D = le at *
                  go_wp2_with fail
                  exact ⟨⟨k + 1, by omega, by go_num, HK2⟩, by simp [intOf]; omega⟩
              · as_aux_lemma =>
                  obtain rfl : nT = k := by omega
                  obtain ⟨nh, hnh⟩ : ∃ nh, L'.ws.length = nh := ⟨_, rfl⟩
                  have HNh := Lib.hid hnh
                  have hnh2 : nh ≤ 1000 := by have := HK.out.fit.ok.len; have := HK.out.fit.ok.few; omega
                  clear hnh
                  go_wp2_with fail
                  go_loopw [32] (fun i wx => ∃ k : Nat, k ≤ nh + 2 ∧ i = .int .i64 ((k : Int) - 1) ∧ Hid (Two w w3 nT d z lp' rp' (t + 1) L' wx)) (fun i _ => (nh + 1 - intOf i).toNat)
                  case atStart => exact ⟨0, by omega, rfl, HK⟩
                  case round =>
                    obtain ⟨j, hj, rfl, HJ⟩ := hrel
                    clear HK
                    have HHm := Lib.hid (two_rhome HJ.out)
                    rw [HNh.out] at HHm
                    go_wp2_with fail
                    refine HHm.out.mono ?_
                    rintro x wa ⟨rfl, Oa⟩
                    have HJa := Lib.hid (HJ.out.old Oa)
                    clear Oa HHm HJ
                    by_cases hjl : j < nh + 2
                    · have j1 : (j : Int) - 1 ≤ (nh : Int) := by omega
                      go_wp2_with fail
                      refine (two_look HJa.out ((j : Int) - 1)).mono ?_
                      rintro x wb ⟨p1, l1, c1, rfl, H1, hl1, O1⟩
                      have HJ1 := Lib.hid (HJa.out.old O1)
                      have HH1 := Lib.hid H1
                      have Hl1 := Lib.hid hl1
                      clear H1 hl1 O1 HJa
                      go_wp2_with fail
                      refine (two_rlook HJ1.out (by omega) ((j : Int) - 1)).mono ?_
                      rintro x wd ⟨p2, l2, c2, rfl, H2, hl2, O2⟩
                      have HJ2 := Lib.hid (HJ1.out.old O2)
                      have hs1 := str_any wd p1 _ l1 c1 (HH1.out.old O2) Hl1.out
                      have hs2 := str_any wd p2 _ l2 c2 H2 hl2
                      clear H2 hl2 O2 HJ1 HH1 Hl1
                      generalize strOf (hlookB L' ((j : Int) - 1)) = sb at *
                      generalize hlookE L' ((j : Int) - 1) = le at *
                      have ej : (j : Int) - 1 + 1 = ((j + 1 : Nat) : Int) - 1 := by omega
                      go_wp2_with fail
                      exact ⟨⟨j + 1, by omega, by first | go_num | (simp only [ej]), HJ2⟩, by simp [intOf]; omega⟩
                    · obtain rfl : j = nh + 2 := by omega
                      have j1 : ¬ ((nh + 2 : Nat) : Int) - 1 ≤ (nh : Int) := by omega
                      go_wp2_with fail
                      exact ⟨⟨t + 1, lp', rp', L', by omega, by omega, rfl, rfl, by go_num, HJa⟩, by simp [intOf]; omega⟩
    · have HO := Lib.hid HL.out.m.since
      clear HL
      by_cases hlt : (t : Int) < (lA : Int)
      · have i2 : ¬ (t : Int) < 24 := by omega
        go_wp2_with fail
        go_ret
        exact ⟨rfl, HO.out⟩
      · go_wp2_with fail
        go_ret
        exact ⟨rfl, HO.out⟩
end Go.Proofs.YtmingbgohdhajaaGreat
