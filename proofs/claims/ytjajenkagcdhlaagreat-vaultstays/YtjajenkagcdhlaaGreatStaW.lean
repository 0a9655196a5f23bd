/- The walk of lariatlaw6.VaultStays. -/
import Derived.Test.YtjajenkagcdhlaaGreatJQ
import Derived.Test.YtjajenkagcdhlaaGreatJU
import Derived.Deep.CutBlock
namespace Go.Proofs.YtjajenkagcdhlaaGreat
open Go.RowKit
set_option maxRecDepth 100000
set_option linter.unusedSimpArgs false

/-- An act as a call has it in a block of its own. -/
def actCt (r : ActR) : List Value := [.int .i64 r.what, .int .i64 r.id, .int .i64 r.n, .int .i64 r.torn, .int .i64 r.cut, .slice r.ba r.bl r.bc, .slice r.ka r.kl r.kc]
set_option maxHeartbeats 25600000 in
theorem stays_law (pa : Option Addr) (la ca : Nat) (w : World) (hA : HasA w pa la) (hla : la ≤ 140737488355328) : Calls Tryz.prog 4 #[.slice pa la ca] w fun e w' => e = .returned (.bool true) ∧ Below w.heap.size w w' := by
  have HA := Lib.hid hA
  have hla' := Lib.hid hla
  clear hA hla
  go_enter Tryz.func4, Tryz.ntmps4
  go_wp2_with fail
  refine (known_any w).mono ?_
  rintro y w1 ⟨rfl, O1⟩
  have HFo : Hid (Calls Tryz.prog 10 #[.int .i64 90, .int .i64 30] w1 fun y w' => ∃ vp lp d x, y = .returned (.tuple #[.pointer (some ⟨vp, 0, none⟩), .pointer (some ⟨d, 0, none⟩)]) ∧ Vt w vp lp d x 30 58 3 true (fun X => X = home0 58) (home0 58) rs0 rs0 ps0 w' ∧ KeptV w1 w') := lfound_any O1 (n := 90) (l := 30) (h := 58) rfl (by omega) (by omega) (by omega) (by omega)
  clear O1
  go_wp2_with fail
  refine HFo.out.mono ?_
  rintro y w2 ⟨vp, lp, d, x, rfl, V2, _⟩
  have HV2 := Lib.hid V2
  clear V2 HFo
  go_wp2_with fail
  refine (known_any w2).mono ?_
  rintro y w3 ⟨rfl, O3⟩
  have HV3 := Lib.hid (HV2.out.old O3)
  clear O3 HV2
  have hmm := @run_makeMap Tryz.prog
  have hs : w.heap.size ≤ w3.heap.size := HV3.out.sail.old0.size
  have O4 : Old w3 (w3.alloc (.map #[] 0)) := (Touch.refl _ _).alloc _
  have O5 : Old (w3.alloc (.map #[] 0)) ((w3.alloc (.map #[] 0)).alloc (.map #[] 0)) := (Touch.refl _ _).alloc _
  have HU3 : Hid (Sta w d 3 1 vp w3.heap.size (w3.heap.size + 1) (.slice (some ⟨w3.heap.size + 1 + 1, 0, none⟩) 1 1) (((w3.alloc (.map #[] 0)).alloc (.map #[] 0)).alloc (.cells #[.map (some (w3.heap.size + 1))] 29))) := by
    have M1 := (VMap.made w3).old O5
    have M2 := VMap.made (w3.alloc (.map #[] 0))
    rw [World.size_alloc] at M2
    have V5 := HV3.out.old (O4.trans O5)
    have hz : ((w3.alloc (.map #[] 0)).alloc (.map #[] 0)).heap.size = w3.heap.size + 1 + 1 := by rw [World.size_alloc, World.size_alloc]
    have A := MayAt.one (w0 := w) (w := (w3.alloc (.map #[] 0)).alloc (.map #[] 0)) (e := (w3.heap.size + 1, rs0)) (np := w3.heap.size) (by omega) M2 (by show _ ≤ w3.heap.size + 1; omega) (by show w3.heap.size + 1 ≠ _; omega) V5.mem.rok
    rw [hz] at A
    have o6 : Old ((w3.alloc (.map #[] 0)).alloc (.map #[] 0)) (((w3.alloc (.map #[] 0)).alloc (.map #[] 0)).alloc (.cells #[.map (some (w3.heap.size + 1))] 29)) := (Touch.refl _ _).alloc _
    exact ⟨lp, x, 3, true, _, _, _, rs0, rs0, [(w3.heap.size + 1, rs0)], Nat.le_refl _, V5.old o6, M1.old o6, M2.old o6, hs, by omega, by omega, A, fun X hX => ⟨_, List.mem_singleton.2 rfl, _, V5.mem.vld, by rw [hX]; exact V5.holds⟩, Nat.le_refl _⟩
  clear HV3 O4 O5 hs
  go_wp2_with fail
  clear hmm
  generalize ((w3.alloc (.map #[] 0)).alloc (.map #[] 0)).alloc (.cells #[.map (some (w3.heap.size + 1))] 29) = w4 at *
  generalize (Value.slice (some ⟨w3.heap.size + 1 + 1, 0, none⟩) 1 1) = mv at *
  generalize w3.heap.size + 1 = kp at *
  generalize w3.heap.size = np at *
  go_loopw [3, 5, 6, 7, 8] (fun vv nv kv mv iv wx => ∃ i vp np kp : Nat, i ≤ 36 ∧ vv = .pointer (some ⟨vp, 0, none⟩) ∧ nv = .map (some np) ∧ kv = .map (some kp) ∧ iv = .int .i64 (i : Int) ∧ Hid (Sta w d (3 + 4 * i) (1 + i) vp np kp mv wx)) (fun _ _ _ _ iv _ => 36 - (intOf iv).toNat)
  case atStart => exact ⟨0, vp, np, kp, by omega, rfl, rfl, rfl, rfl, HU3⟩
  case round =>
    clear HU3
    obtain ⟨i, vp, np, kp, hi36, rfl, rfl, rfl, rfl, HU⟩ := hrel
    obtain ⟨go, hgo⟩ : ∃ go, decide (i < la ∧ i < 36) = go := ⟨_, rfl⟩
    go_upto_region 10 with fail
    go_cut [43] (fun v wx => v = .bool go ∧ wx = wr)
    case first =>
      by_cases h1 : i < la
      · have i1 : (i : Int) < (la : Int) := by omega
        by_cases h2 : i < 36
        · have i2 : (i : Int) < 36 := by omega
          have e : go = true := by rw [← hgo]; exact decide_eq_true ⟨h1, h2⟩
          subst e
          clear hgo
          go_wp2_with fail
          go_meet
          exact ⟨rfl, rfl⟩
        · have i2 : ¬ (i : Int) < 36 := by omega
          have e : go = false := by rw [← hgo]; exact decide_eq_false (fun q => h2 q.2)
          subst e
          clear hgo
          go_wp2_with fail
          go_meet
          exact ⟨rfl, rfl⟩
      · have i1 : ¬ (i : Int) < (la : Int) := by omega
        have e : go = false := by rw [← hgo]; exact decide_eq_false (fun q => h1 q.1)
        subst e
        clear hgo
        go_wp2_with fail
        go_meet
        exact ⟨rfl, rfl⟩
    case rest =>
      obtain ⟨rfl, rfl⟩ := hcut
      cases go with
      | true =>
        obtain ⟨h1, h2⟩ := of_decide_eq_true hgo
        clear hgo
        have HOw := Lib.hid HU.out.old0
        obtain ⟨ba, oa, r, rfl, hc0, hin⟩ := HA.out i h1
        have hc := hc0.old HOw.out
        have c0 := hc.c0
        have c1 := hc.c1
        have c2 := hc.c2
        have c3 := hc.c3
        have c4 := hc.c4
        have c5 := hc.c5
        have c6 := hc.c6
        obtain ⟨B, l, hBl, hl500, hB256, hBy⟩ := act_bytes hin
        have HBy := Lib.hid hBy
        have HBl := Lib.hid hBl
        have HIn := Lib.hid hin
        have i0 : (0 : Int) ≤ (i : Int) := by omega
        have i1 : (i : Int) < (la : Int) := by omega
        have hwi : IntKind.i64.wrap ((i : Int) + 1) = (i : Int) + 1 := wrap_fits ⟨by omega, by omega⟩
        clear hin hBy hBl hB256 hc hc0
        go_upto_region 13 with fail
        have O7 : Old wc (wc.alloc (.cells #[.int .i64 r.what, .int .i64 r.id, .int .i64 r.n, .int .i64 r.torn, .int .i64 r.cut, .slice r.ba r.bl r.bc, .slice r.ka r.kl r.kc] 33)) := (Touch.refl _ _).alloc _
        have HM0 : Hid (Sta w d (3 + 4 * i) (1 + i) vp np kp u7 (wc.alloc (.cells #[.int .i64 r.what, .int .i64 r.id, .int .i64 r.n, .int .i64 r.torn, .int .i64 r.cut, .slice r.ba r.bl r.bc, .slice r.ka r.kl r.kc] 33)) ∧ Blk (wc.alloc (.cells #[.int .i64 r.what, .int .i64 r.id, .int .i64 r.n, .int .i64 r.torn, .int .i64 r.cut, .slice r.ba r.bl r.bc, .slice r.ka r.kl r.kc] 33)) wc.heap.size 33 (actCt r)) := ⟨HU.out.old O7, Blk.new wc 33 (actCt r)⟩
        clear HU c0 c1 c2 c3 c4 c5 c6 O7 HOw
        generalize wc.alloc (.cells #[.int .i64 r.what, .int .i64 r.id, .int .i64 r.n, .int .i64 r.torn, .int .i64 r.cut, .slice r.ba r.bl r.bc, .slice r.ka r.kl r.kc] 33) = w7 at *
        generalize wc.heap.size = gx at *
        have HT := Lib.hid HM0.out.1
        have HG := Lib.hid HM0.out.2
        have HO := Lib.hid HM0.out.1.old0
        have cx0 : w7.cell? ⟨gx, 0, none⟩ = some (.int .i64 r.what) := HM0.out.2.cell 0
        have cx1 : w7.cell? ⟨gx, 1, none⟩ = some (.int .i64 r.id) := HM0.out.2.cell 1
        have HPi := Lib.hid (pick_at r.id 7 (by decide) (by decide))
        have HPw := Lib.hid (pick_at r.what 14 (by decide) (by decide))
        have hpi := pickN_lt (n := r.id) (m := 7) (by decide)
        have hpw := pickN_lt (n := r.what) (m := 14) (by decide)
        generalize pickN r.id 7 = p7 at *
        generalize pickN r.what 14 = q at *
        obtain ⟨id, hid⟩ : ∃ id, 1 + p7 = id := ⟨_, rfl⟩
        have hwid : IntKind.i64.wrap (1 + (p7 : Int)) = (id : Int) := wrap_fits' (by omega) ⟨by omega, by omega⟩
        have hid1 : 1 ≤ id ∧ id ≤ 7 := by omega
        clear HM0
        go_upto_block 2 with (first
          | ((with_reducible refine (HPi.out _).mono ?_); rintro y w' ⟨rfl, rfl⟩)
          | ((with_reducible refine (HPw.out _).mono ?_); rintro y w' ⟨rfl, rfl⟩))
        clear hid hwid cx0 cx1 HPi HPw hpi
        go_cut [3, 5, 6, 7, 12] from 58 to 120 (fun vv nv kv mv _ wx => ∃ vp' np' kp' : Nat, vv = .pointer (some ⟨vp', 0, none⟩) ∧ nv = .map (some np') ∧ kv = .map (some kp') ∧ Hid (Blk wx gx 33 (actCt r)) ∧ Hid (Old w wx) ∧ Hid (Sta w d (4 + 4 * i) (2 + i) vp' np' kp' mv wx ∨ Skt w d (4 + 4 * i) (2 + i) mv wx))
        case first =>
          have hq' : q = 6 ∨ q = 7 ∨ q = 8 ∨ q = 9 ∨ q = 10 ∨ q = 11 ∨ q = 12 ∨ q = 13 ∨ (((q : Int) == 6) = false ∧ ((q : Int) == 7) = false ∧ ((q : Int) == 8) = false ∧ ((q : Int) == 9) = false ∧ ((q : Int) == 10) = false ∧ ((q : Int) == 11) = false ∧ ((q : Int) == 12) = false ∧ ((q : Int) == 13) = false) := by
            simp only [beq_eq_false_iff_ne, ne_eq]
            omega
          rcases hq' with rfl | rfl | rfl | rfl | rfl | rfl | rfl | rfl | ⟨hq6, hq7, hq8, hq9, hq10, hq11, hq12, hq13⟩
          · as_aux_lemma =>
              clear hpw
              have HDr := Lib.hid (HT.out.drop id (by omega) (by omega))
              go_wp2_with fail
              refine HDr.out.mono ?_
              rintro y w8 ⟨c, rfl, w9, hdel, S9, B9⟩
              have HG9 := Lib.hid (B9 _ _ HG.out)
              have HO9 := Lib.hid S9.old0
              have HS9 : Hid (Sta w d (4 + 4 * i) (2 + i) vp np kp u7 w9 ∨ Skt w d (4 + 4 * i) (2 + i) u7 w9) := .inl (S9.mono (by omega) (by omega))
              clear S9 B9 HDr
              go_wp2_with (first | (at_builtin; refine wpList_delete_run rfl _ _ 29 3 rfl _ _ rfl rfl _ _ (hdel _) ?_))
              go_meet
              exact ⟨vp, np, kp, rfl, rfl, rfl, HG9, HO9, HS9⟩
          · as_aux_lemma =>
              clear hpw
              have HDr := Lib.hid (HT.out.drop id (by omega) (by omega))
              go_wp2_with fail
              refine HDr.out.mono ?_
              rintro y w8 ⟨c, rfl, w9, hdel, S9, B9⟩
              have HG9 := Lib.hid (B9 _ _ HG.out)
              have HO9 := Lib.hid S9.old0
              have HS9 : Hid (Sta w d (4 + 4 * i) (2 + i) vp np kp u7 w9 ∨ Skt w d (4 + 4 * i) (2 + i) u7 w9) := .inl (S9.mono (by omega) (by omega))
              clear S9 B9 HDr
              go_wp2_with (first | (at_builtin; refine wpList_delete_run rfl _ _ 29 3 rfl _ _ rfl rfl _ _ (hdel _) ?_))
              go_meet
              exact ⟨vp, np, kp, rfl, rfl, rfl, HG9, HO9, HS9⟩
          · as_aux_lemma =>
              clear hpw
              have HKe := Lib.hid (HT.out.keep (by omega))
              go_wp2_with fail
              refine HKe.out.mono ?_
              rintro y w8 ⟨B8, ⟨rfl, S8⟩ | ⟨rfl, S8⟩ | ⟨rfl, S8⟩⟩
              · have HCo := Lib.hid (S8.copy (by omega))
                have HG8 := Lib.hid (B8 _ _ HG.out)
                clear S8 B8 HKe
                go_wp2_with fail
                refine HCo.out.mono ?_
                rintro y w9 ⟨mo, rfl, v', w10, hap, S10, B10⟩
                have HG10 := Lib.hid (B10 _ _ HG8.out)
                have HC2 := Lib.hid S10.copy
                clear S10 B10 HG8 HCo
                go_wp2_with (first | (at_builtin; refine wpList_append_run rfl _ _ 47 47 rfl _ _ rfl rfl _ _ (hap _) ?_))
                refine HC2.out.mono ?_
                rintro y w11 ⟨ko, rfl, S11, B11⟩
                have HG11 := Lib.hid (B11 _ _ HG10.out)
                have HO11 := Lib.hid S11.old0
                have HS11 : Hid (Sta w d (4 + 4 * i) (2 + i) vp np ko v' w11 ∨ Skt w d (4 + 4 * i) (2 + i) v' w11) := .inl (S11.mono (by omega) (by omega))
                clear S11 B11 HG10 HC2
                go_wp2_with fail
                go_meet
                exact ⟨vp, np, ko, rfl, rfl, rfl, HG11, HO11, HS11⟩
              · have HCo := Lib.hid S8.copy
                have HG8 := Lib.hid (B8 _ _ HG.out)
                clear S8 B8 HKe
                go_wp2_with fail
                refine HCo.out.mono ?_
                rintro y w9 ⟨mo, rfl, S9, B9⟩
                have HG9 := Lib.hid (B9 _ _ HG8.out)
                have HO9 := Lib.hid S9.old0
                have HS9 : Hid (Sta w d (4 + 4 * i) (2 + i) vp mo kp u7 w9 ∨ Skt w d (4 + 4 * i) (2 + i) u7 w9) := .inl (S9.mono (by omega) (by omega))
                clear S9 B9 HG8 HCo
                go_wp2_with fail
                go_meet
                exact ⟨vp, mo, kp, rfl, rfl, rfl, HG9, HO9, HS9⟩
              · have HCo := Lib.hid (S8.copy (by omega))
                have HG8 := Lib.hid (B8 _ _ HG.out)
                clear S8 B8 HKe
                go_wp2_with fail
                refine HCo.out.mono ?_
                rintro y w9 ⟨mo, rfl, v', w10, hap, S10, B10⟩
                have HG10 := Lib.hid (B10 _ _ HG8.out)
                have HC2 := Lib.hid S10.copy
                clear S10 B10 HG8 HCo
                go_wp2_with (first | (at_builtin; refine wpList_append_run rfl _ _ 47 47 rfl _ _ rfl rfl _ _ (hap _) ?_))
                refine HC2.out.mono ?_
                rintro y w11 ⟨no, rfl, S11, B11⟩
                have HG11 := Lib.hid (B11 _ _ HG10.out)
                have HO11 := Lib.hid S11.wrk.old0
                have HS11 : Hid (Sta w d (4 + 4 * i) (2 + i) vp no kp v' w11 ∨ Skt w d (4 + 4 * i) (2 + i) v' w11) := .inr (S11.mono (by omega) (by omega))
                clear S11 B11 HG10 HC2
                go_wp2_with fail
                go_meet
                exact ⟨vp, no, kp, rfl, rfl, rfl, HG11, HO11, HS11⟩
          · as_aux_lemma =>
              clear hpw
              have HKe := Lib.hid (HT.out.keep (by omega))
              go_wp2_with fail
              refine HKe.out.mono ?_
              rintro y w8 ⟨B8, ⟨rfl, S8⟩ | ⟨rfl, S8⟩ | ⟨rfl, S8⟩⟩
              · have HCo := Lib.hid (S8.copy (by omega))
                have HG8 := Lib.hid (B8 _ _ HG.out)
                clear S8 B8 HKe
                go_wp2_with fail
                refine HCo.out.mono ?_
                rintro y w9 ⟨mo, rfl, v', w10, hap, S10, B10⟩
                have HG10 := Lib.hid (B10 _ _ HG8.out)
                have HC2 := Lib.hid S10.copy
                clear S10 B10 HG8 HCo
                go_wp2_with (first | (at_builtin; refine wpList_append_run rfl _ _ 47 47 rfl _ _ rfl rfl _ _ (hap _) ?_))
                refine HC2.out.mono ?_
                rintro y w11 ⟨ko, rfl, S11, B11⟩
                have HG11 := Lib.hid (B11 _ _ HG10.out)
                have HO11 := Lib.hid S11.old0
                have HS11 : Hid (Sta w d (4 + 4 * i) (2 + i) vp np ko v' w11 ∨ Skt w d (4 + 4 * i) (2 + i) v' w11) := .inl (S11.mono (by omega) (by omega))
                clear S11 B11 HG10 HC2
                go_wp2_with fail
                go_meet
                exact ⟨vp, np, ko, rfl, rfl, rfl, HG11, HO11, HS11⟩
              · have HCo := Lib.hid S8.copy
                have HG8 := Lib.hid (B8 _ _ HG.out)
                clear S8 B8 HKe
                go_wp2_with fail
                refine HCo.out.mono ?_
                rintro y w9 ⟨mo, rfl, S9, B9⟩
                have HG9 := Lib.hid (B9 _ _ HG8.out)
                have HO9 := Lib.hid S9.old0
                have HS9 : Hid (Sta w d (4 + 4 * i) (2 + i) vp mo kp u7 w9 ∨ Skt w d (4 + 4 * i) (2 + i) u7 w9) := .inl (S9.mono (by omega) (by omega))
                clear S9 B9 HG8 HCo
                go_wp2_with fail
                go_meet
                exact ⟨vp, mo, kp, rfl, rfl, rfl, HG9, HO9, HS9⟩
              · have HCo := Lib.hid (S8.copy (by omega))
                have HG8 := Lib.hid (B8 _ _ HG.out)
                clear S8 B8 HKe
                go_wp2_with fail
                refine HCo.out.mono ?_
                rintro y w9 ⟨mo, rfl, v', w10, hap, S10, B10⟩
                have HG10 := Lib.hid (B10 _ _ HG8.out)
                have HC2 := Lib.hid S10.copy
                clear S10 B10 HG8 HCo
                go_wp2_with (first | (at_builtin; refine wpList_append_run rfl _ _ 47 47 rfl _ _ rfl rfl _ _ (hap _) ?_))
                refine HC2.out.mono ?_
                rintro y w11 ⟨no, rfl, S11, B11⟩
                have HG11 := Lib.hid (B11 _ _ HG10.out)
                have HO11 := Lib.hid S11.wrk.old0
                have HS11 : Hid (Sta w d (4 + 4 * i) (2 + i) vp no kp v' w11 ∨ Skt w d (4 + 4 * i) (2 + i) v' w11) := .inr (S11.mono (by omega) (by omega))
                clear S11 B11 HG10 HC2
                go_wp2_with fail
                go_meet
                exact ⟨vp, no, kp, rfl, rfl, rfl, HG11, HO11, HS11⟩
          · as_aux_lemma =>
              clear hpw
              have HUn := Lib.hid HT.out.undo
              go_wp2_with fail
              refine HUn.out.mono ?_
              rintro y w8 ⟨rfl, B8, C8⟩
              have HCo := Lib.hid C8
              have HG8 := Lib.hid (B8 _ _ HG.out)
              clear C8 B8 HUn
              go_wp2_with fail
              refine HCo.out.mono ?_
              rintro y w9 ⟨mo, rfl, S9, B9⟩
              have HG9 := Lib.hid (B9 _ _ HG8.out)
              have HO9 := Lib.hid S9.old0
              have HS9 : Hid (Sta w d (4 + 4 * i) (2 + i) vp mo kp u7 w9 ∨ Skt w d (4 + 4 * i) (2 + i) u7 w9) := .inl (S9.mono (by omega) (by omega))
              clear S9 B9 HG8 HCo
              go_wp2_with fail
              go_meet
              exact ⟨vp, mo, kp, rfl, rfl, rfl, HG9, HO9, HS9⟩
          · as_aux_lemma =>
              clear hpw
              have HSe := Lib.hid (HT.out.settle (by omega) (by omega))
              go_wp2_with fail
              refine HSe.out.mono ?_
              rintro y w8 ⟨B8, ⟨rfl, S8⟩ | ⟨rfl, S8⟩⟩
              · have HG8 := Lib.hid (Bx.of_old ((Touch.refl _ w8).alloc (.cells #[.map (some kp)] 29)) _ _ (B8 _ _ HG.out))
                have HO8 := Lib.hid S8.old0
                have HS8 : Hid (Sta w d (4 + 4 * i) (2 + i) vp np kp (.slice (some ⟨w8.heap.size, 0, none⟩) 1 1) (w8.alloc (.cells #[.map (some kp)] 29)) ∨ Skt w d (4 + 4 * i) (2 + i) (.slice (some ⟨w8.heap.size, 0, none⟩) 1 1) (w8.alloc (.cells #[.map (some kp)] 29))) := .inl (S8.mono (by omega) (by omega))
                clear S8 B8 HSe
                go_wp2_with fail
                go_meet
                exact ⟨vp, np, kp, rfl, rfl, rfl, HG8, HO8, HS8⟩
              · have HG8 := Lib.hid (B8 _ _ HG.out)
                have HO8 := Lib.hid S8.wrk.old0
                have HS8 : Hid (Sta w d (4 + 4 * i) (2 + i) vp np kp u7 w8 ∨ Skt w d (4 + 4 * i) (2 + i) u7 w8) := .inr (S8.mono (by omega) (by omega))
                clear S8 B8 HSe
                go_wp2_with fail
                go_meet
                exact ⟨vp, np, kp, rfl, rfl, rfl, HG8, HO8, HS8⟩
          · as_aux_lemma =>
              clear hpw
              have HS8 : Hid (Sta w d (4 + 4 * i) (2 + i) vp np kp u7 w7 ∨ Skt w d (4 + 4 * i) (2 + i) u7 w7) := .inl (HT.out.mono (by omega) (by omega))
              go_wp2_with fail
              go_meet
              exact ⟨vp, np, kp, rfl, rfl, rfl, HG, HO, HS8⟩
          · as_aux_lemma =>
              clear hpw
              have HPn := Lib.hid (pick_at r.n 30 (by decide) (by decide))
              have hpn := pickN_lt (n := r.n) (m := 30) (by decide)
              generalize pickN r.n 30 = p30 at *
              have HBk := Lib.hid (HT.out.break_ (p30 : Int) (by omega))
              have cx2 : w7.cell? ⟨gx, 2, none⟩ = some (.int .i64 r.n) := HG.out.cell 2
              clear hpn
              go_wp2_with (first | ((with_reducible refine (HPn.out _).mono ?_); rintro y w' ⟨rfl, rfl⟩))
              refine HBk.out.mono ?_
              rintro y w8 ⟨rfl, B8, S8⟩
              have HG8 := Lib.hid (B8 _ _ HG.out)
              have HO8 := Lib.hid S8.old0
              have HS8 : Hid (Sta w d (4 + 4 * i) (2 + i) vp np kp u7 w8 ∨ Skt w d (4 + 4 * i) (2 + i) u7 w8) := .inl (S8.mono (by omega) (by omega))
              clear S8 B8 HBk cx2
              go_wp2_with fail
              go_meet
              exact ⟨vp, np, kp, rfl, rfl, rfl, HG8, HO8, HS8⟩
          · as_aux_lemma =>
              clear hpw
              have d0 : w7.cell? ⟨gx, 0, none⟩ = some (.int .i64 r.what) := HG.out.cell 0
              have d1 : w7.cell? ⟨gx, 1, none⟩ = some (.int .i64 r.id) := HG.out.cell 1
              have d2 : w7.cell? ⟨gx, 2, none⟩ = some (.int .i64 r.n) := HG.out.cell 2
              have d3 : w7.cell? ⟨gx, 3, none⟩ = some (.int .i64 r.torn) := HG.out.cell 3
              have d4 : w7.cell? ⟨gx, 4, none⟩ = some (.int .i64 r.cut) := HG.out.cell 4
              have d5 : w7.cell? ⟨gx, 5, none⟩ = some (.slice r.ba r.bl r.bc) := HG.out.cell 5
              have d6 : w7.cell? ⟨gx, 6, none⟩ = some (.slice r.ka r.kl r.kc) := HG.out.cell 6
              go_wp2_with fail
              refine (HBy.out w7 HO.out).mono ?_
              rintro y w8 ⟨a8, b8, rfl, hb8, Hh8, O8⟩
              have HPt := Lib.hid ((HT.out.old O8).put id (by omega) (by omega) a8 B l b8 Hh8 HBl.out hl500)
              have HG8 := Lib.hid (Bx.of_old O8 _ _ HG.out)
              clear Hh8 O8 hb8 d0 d1 d2 d3 d4 d5 d6
              go_wp2_with fail
              refine HPt.out.mono ?_
              rintro y w9 ⟨B9, O9, ⟨rfl, S9⟩ | ⟨rfl, S9⟩⟩
              · have HG9 := Lib.hid (B9 _ _ HG8.out)
                have HO9 := Lib.hid O9
                have HS9 : Hid (Sta w d (4 + 4 * i) (2 + i) vp np kp u7 w9 ∨ Skt w d (4 + 4 * i) (2 + i) u7 w9) := .inl (S9.mono (by omega) (by omega))
                clear S9 B9 O9 HPt
                go_wp2_with fail
                go_meet
                exact ⟨vp, np, kp, rfl, rfl, rfl, HG9, HO9, HS9⟩
              · have HG9 := Lib.hid (B9 _ _ HG8.out)
                have HS9 := Lib.hid S9
                have HO9 := Lib.hid O9
                have d0 : w9.cell? ⟨gx, 0, none⟩ = some (.int .i64 r.what) := HG9.out.cell 0
                have d1 : w9.cell? ⟨gx, 1, none⟩ = some (.int .i64 r.id) := HG9.out.cell 1
                have d2 : w9.cell? ⟨gx, 2, none⟩ = some (.int .i64 r.n) := HG9.out.cell 2
                have d3 : w9.cell? ⟨gx, 3, none⟩ = some (.int .i64 r.torn) := HG9.out.cell 3
                have d4 : w9.cell? ⟨gx, 4, none⟩ = some (.int .i64 r.cut) := HG9.out.cell 4
                have d5 : w9.cell? ⟨gx, 5, none⟩ = some (.slice r.ba r.bl r.bc) := HG9.out.cell 5
                have d6 : w9.cell? ⟨gx, 6, none⟩ = some (.slice r.ka r.kl r.kc) := HG9.out.cell 6
                clear S9 B9 O9 HPt
                go_wp2_with fail
                refine (HBy.out w9 HO9.out).mono ?_
                rintro y w10 ⟨a10, b10, rfl, hb10, Hh10, O10⟩
                have hst := str_any w10 a10 B l b10 Hh10 HBl.out
                obtain ⟨w11, hput, S11, B11⟩ := HS9.out.upd O10 (by omega) (by rw [HBl.out]; exact hl500)
                have HG11 := Lib.hid (B11 _ _ HG9.out)
                have HO11 := Lib.hid S11.old0
                have HS11 : Hid (Sta w d (4 + 4 * i) (2 + i) vp np kp u7 w11 ∨ Skt w d (4 + 4 * i) (2 + i) u7 w11) := .inl (S11.mono (by omega) (by omega))
                clear S11 B11 HS9 Hh10 O10 hb10 d0 d1 d2 d3 d4 d5 d6
                go_wp2_with fail
                go_meet
                exact ⟨vp, np, kp, rfl, rfl, rfl, HG11, HO11, HS11⟩
        case rest =>
          obtain ⟨vp', np', kp', rfl, rfl, rfl, HG2, HO2, HS2⟩ := hcut
          clear HT HG HO
          rename World => w8
          go_upto_region 39 with fail
          go_cut [127] from 121 to 127 (fun v wx => ∃ c : Bool, v = .bool c ∧ Hid (Blk wx gx 33 (actCt r)) ∧ Hid (Old w wx) ∧ Hid ((c = true ∧ Sta w d (4 + 4 * i) (2 + i) vp' np' kp' u7 wx) ∨ (c = false ∧ Wrk w d (4 + 4 * i) (2 + i) u7 wx)))
          case first =>
            rcases HS2.out with S | S
            · have HBr := Lib.hid S.broken
              by_cases h12 : q = 12
              · subst h12
                have HW : Hid (Wrk w d (4 + 4 * i) (2 + i) u7 w8) := S.wrk
                clear S HS2 hpw
                go_wp2_with (first | ((with_reducible refine HBr.out.mono ?_); rintro y w' ⟨rfl, rfl⟩))
                go_meet
                exact ⟨false, rfl, HG2, HO2, (.inr ⟨rfl, HW.out⟩ : _ ∨ _)⟩
              · have h12a : ((q : Int) == 12) = false := by simp only [beq_eq_false_iff_ne]; omega
                have h12b : ((q : Int) != 12) = true := by simp only [bne_iff_ne, ne_eq]; omega
                have HW : Hid (Sta w d (4 + 4 * i) (2 + i) vp' np' kp' u7 w8) := S
                clear S HS2 hpw h12
                go_wp2_with (first | ((with_reducible refine HBr.out.mono ?_); rintro y w' ⟨rfl, rfl⟩))
                go_meet
                exact ⟨true, rfl, HG2, HO2, (.inl ⟨rfl, HW.out⟩ : _ ∨ _)⟩
            · have HBr := Lib.hid S.broken
              have HW : Hid (Wrk w d (4 + 4 * i) (2 + i) u7 w8) := S.wrk
              clear S HS2 hpw
              go_wp2_with (first | ((with_reducible refine HBr.out.mono ?_); rintro y w' ⟨rfl, rfl⟩))
              go_meet
              exact ⟨false, rfl, HG2, HO2, (.inr ⟨rfl, HW.out⟩ : _ ∨ _)⟩
          case rest =>
            obtain ⟨c, rfl, HG3, HO3, HS3⟩ := hcut
            clear HG2 HO2 HS2 hpw
            rename World => w9
            cases c with
            | true =>
              have HN : Hid (Sta w d (3 + 4 * (i + 1)) (1 + (i + 1)) vp' np' kp' u7 w9) := by
                rcases HS3.out with ⟨_, S⟩ | ⟨e, _⟩
                · exact S.mono (by omega) (by omega)
                · cases e
              clear HG3 HO3 HS3
              go_wp2_with fail
              exact ⟨⟨i + 1, vp', np', kp', by omega, rfl, rfl, rfl, by go_num, HN⟩, by simp [intOf]; omega⟩
            | false =>
              have HW : Hid (Wrk w d (4 + 4 * i) (2 + i) u7 w9) := by
                rcases HS3.out with ⟨e, _⟩ | ⟨_, S⟩
                · cases e
                · exact S
              clear HS3
              go_upto_region 40 with fail
              go_cut [] from 128 to 137 (fun wx => Hid (Blk wx gx 33 (actCt r)) ∧ Hid (Old w wx) ∧ Hid (Fel w d (4 + 4 * i) (2 + i) true u7 wx))
              case first =>
                have d6 : w9.cell? ⟨gx, 6, none⟩ = some (.slice r.ka r.kl r.kc) := HG3.out.cell 6
                have d3 : w9.cell? ⟨gx, 3, none⟩ = some (.int .i64 r.torn) := HG3.out.cell 3
                have d4 : w9.cell? ⟨gx, 4, none⟩ = some (.int .i64 r.cut) := HG3.out.cell 4
                have HFa := Lib.hid (HW.out.fall (by omega) r.ka r.ks r.kl r.kc (r.torn.tmod 20) (r.cut.tmod 98) (HIn.out.keep.old HO3.out) HIn.out.klen (by have := HIn.out.ksm; omega))
                go_wp2_with fail
                refine HFa.out.mono ?_
                rintro y w10 ⟨rfl, B10, F10⟩
                have HG10 := Lib.hid (B10 _ _ HG3.out)
                have HF10 := Lib.hid F10
                have HO10 := Lib.hid F10.old0
                clear B10 F10 HFa d6 d3 d4
                go_wp2_with fail
                go_meet
                exact ⟨HG10, HO10, HF10⟩
              case rest =>
                obtain ⟨HG4, HO4, HF4⟩ := hcut
                clear HW HG3 HO3
                rename World => w10
                go_step
                go_step
                go_cut [] from 138 to 159 (fun wx => Hid (Fel w d (5 + 4 * i) (2 + i) true u7 wx))
                case first =>
                  have d2 : w10.cell? ⟨gx, 2, none⟩ = some (.int .i64 r.n) := HG4.out.cell 2
                  by_cases h4 : r.n.tmod 4 = 0
                  · as_aux_lemma =>
                      have hqd : IntKind.i64.wrap (r.n.tdiv 4) = r.n.tdiv 4 := wrap_fits (by
                        obtain ⟨q1, q2⟩ := HIn.out.fn
                        have h1 : (r.n.tdiv 4).natAbs = r.n.natAbs / 4 := Int.natAbs_tdiv r.n 4
                        exact ⟨by omega, by omega⟩)
                      have HPn := Lib.hid (pick_at (r.n.tdiv 4) 25 (by decide) (by decide))
                      have hpn := pickN_lt (n := r.n.tdiv 4) (m := 25) (by decide)
                      generalize pickN (r.n.tdiv 4) 25 = p25 at *
                      have HBk := Lib.hid (HF4.out.break_ (p25 : Int) (by omega))
                      clear hpn
                      go_wp2_with (first | ((with_reducible refine (HPn.out _).mono ?_); rintro y w' ⟨rfl, rfl⟩))
                      refine HBk.out.mono ?_
                      rintro y w11 ⟨rfl, B11, F11⟩
                      have HOp := Lib.hid (F11.vopen (by omega))
                      have HG11 := Lib.hid (B11 _ _ HG4.out)
                      clear B11 F11 HBk d2 hqd
                      go_wp2_with fail
                      refine HOp.out.mono ?_
                      rintro y w12 ⟨v1, v2, rfl, B12, W12⟩
                      have HG12 := Lib.hid (B12 _ _ HG11.out)
                      have d6 : w12.cell? ⟨gx, 6, none⟩ = some (.slice r.ka r.kl r.kc) := HG12.out.cell 6
                      have d3 : w12.cell? ⟨gx, 3, none⟩ = some (.int .i64 r.torn) := HG12.out.cell 3
                      have d4 : w12.cell? ⟨gx, 4, none⟩ = some (.int .i64 r.cut) := HG12.out.cell 4
                      have HFa := Lib.hid (W12.fall (by omega) r.ka r.ks r.kl r.kc (r.torn.tmod 20) (r.cut.tmod 98) (HIn.out.keep.old W12.old0) HIn.out.klen (by have := HIn.out.ksm; omega))
                      clear B12 W12 HOp HG11
                      go_wp2_with fail
                      refine HFa.out.mono ?_
                      rintro y w13 ⟨rfl, B13, F13⟩
                      have HF13 := Lib.hid (F13.mono (k' := 5 + 4 * i) (by omega))
                      clear B13 F13 HFa d6 d3 d4
                      go_wp2_with fail
                      go_meet
                      exact HF13
                  · have HF13 := Lib.hid (HF4.out.mono (k' := 5 + 4 * i) (by omega))
                    go_wp2_with fail
                    go_meet
                    exact HF13
                case rest =>
                  have HF5 : Hid (Fel w d (5 + 4 * i) (2 + i) true u7 _) := hcut
                  clear hcut HG4 HO4 HF4
                  rename World => w11
                  have HOp := Lib.hid (HF5.out.open_ (by omega))
                  clear HF5
                  go_wp2_with fail
                  refine HOp.out.mono ?_
                  rintro y w12 ⟨vq, ms, rq, rfl, S12, hex, hml⟩
                  obtain ⟨am, cm, hmv, _⟩ := S12.row
                  subst hmv
                  obtain ⟨m, hm⟩ : ∃ m, ms.length = m := ⟨_, rfl⟩
                  have HS12 := Lib.hid S12
                  rw [hm] at HS12 hml ⊢
                  have hm0 : 0 < m := by
                    obtain ⟨e, he, _⟩ := hex
                    have := List.length_pos_of_mem he
                    omega
                  have HM := Lib.hid hm
                  have HEx := Lib.hid hex
                  have hwm : IntKind.i64.wrap ((m : Int) - 1) = ((m - 1 : Nat) : Int) := wrap_fits' (by omega) ⟨by omega, by omega⟩
                  obtain ⟨k0, hk0⟩ : ∃ k0, m - 1 = k0 := ⟨_, rfl⟩
                  rw [hk0] at hwm
                  have HNo : Hid (∀ j e, k0 < j → ms[j]? = some e → ¬ rq = e.2) := fun j e hj he => by
                    have := lt_of_get he
                    rw [HM.out] at this
                    omega
                  clear S12 hex HOp hm
                  go_wp2_with fail
                  go_loopw [15] (fun kv wx => ∃ k : Nat, kv = .int .i64 (k : Int) ∧ k ≤ k0 ∧ Hid (∀ j e, k < j → ms[j]? = some e → ¬ rq = e.2) ∧ Hid (StO w d (5 + 4 * i + 1) vq (.slice am m cm) ms rq wx)) (fun kv _ => (intOf kv).toNat)
                  case atStart => exact ⟨k0, rfl, Nat.le_refl _, HNo, HS12⟩
                  case round =>
                    obtain ⟨k, rfl, hkk, HNk, HSk⟩ := hrel
                    clear HNo HS12
                    rename World => w13
                    obtain ⟨e, he⟩ := get_of_lt (l := ms) (n := k) (by rw [HM.out]; omega)
                    obtain ⟨ak, ck, hmv, hrow⟩ := HSk.out.row
                    obtain ⟨bk, ok, hak, hck⟩ := hrow k e he
                    injection hmv with e1 e2 e3
                    subst e1
                    subst hak
                    have j0 : (0 : Int) ≤ (k : Int) := by omega
                    have j1 : (k : Int) < (m : Int) := by omega
                    have HI := Lib.hid (HSk.out.is_ e (mem_of_get he))
                    have He := Lib.hid he
                    clear hrow he e2 e3
                    go_wp2_with fail
                    refine HI.out.mono ?_
                    rintro y w14 ⟨c, rfl, hc, O14⟩
                    have HS14 := Lib.hid (HSk.out.old O14)
                    have hck2 := (O14.cell (p := ⟨bk, ok + k, none⟩) (lt_of_cell? hck) (fun q => q)).trans hck
                    clear hck O14 HI HSk
                    cases c with
                    | true =>
                      have HFi := Lib.hid (HS14.out.fin (n := 1 + (i + 1)) (by omega) e (mem_of_get He.out) (hc.1 rfl))
                      clear hc
                      go_wp2_with fail
                      refine HFi.out.mono ?_
                      rintro y w15 ⟨mo, rfl, C15⟩
                      have HC15 := Lib.hid C15
                      clear C15 HFi hck2
                      go_wp2_with fail
                      refine HC15.out.mono ?_
                      rintro y w16 ⟨no, rfl, S16⟩
                      have HN := Lib.hid (S16.mono (k' := 3 + 4 * (i + 1)) (by omega) (Nat.le_refl _))
                      clear S16 HC15
                      go_wp2_with fail
                      exact ⟨⟨i + 1, vq, no, mo, by omega, rfl, rfl, rfl, by go_num, HN⟩, by simp [intOf]; omega⟩
                    | false =>
                      have hne : ¬ rq = e.2 := fun q => by have := hc.2 q; cases this
                      have hk1 : 1 ≤ k := by
                        rcases Nat.eq_zero_or_pos k with q | q
                        · subst q
                          obtain ⟨e', he', hr'⟩ := HEx.out
                          obtain ⟨j, hj⟩ := List.getElem?_of_mem he'
                          rcases Nat.eq_zero_or_pos j with q | q
                          · subst q
                            rw [He.out] at hj
                            injection hj with hj
                            rw [← hj] at hr'
                            exact absurd hr'.symm hne
                          · exact absurd hr'.symm (HNk.out j e' q hj)
                        · exact q
                      have hwk : IntKind.i64.wrap ((k : Int) - 1) = ((k - 1 : Nat) : Int) := wrap_fits' (by omega) ⟨by omega, by omega⟩
                      obtain ⟨k2, hk2⟩ : ∃ k2, k - 1 = k2 := ⟨_, rfl⟩
                      rw [hk2] at hwk
                      have HNn : Hid (∀ j e, k2 < j → ms[j]? = some e → ¬ rq = e.2) := fun j e' hj he' => by
                        by_cases q : j = k
                        · subst q
                          rw [He.out] at he'
                          injection he' with he'
                          rw [← he']
                          exact hne
                        · exact HNk.out j e' (by omega) he'
                      clear hc hne hck2
                      go_wp2_with fail
                      exact ⟨⟨k2, rfl, by omega, HNn, HS14⟩, by simp [intOf]; omega⟩
      | false =>
        clear hgo
        have HO := Lib.hid HU.out.old0
        clear HU
        go_wp2_with fail
        go_ret
        exact ⟨rfl, HO.out.below (Nat.le_refl _) (fun _ _ q => q)⟩
end Go.Proofs.YtjajenkagcdhlaaGreat
