/- The contracts of nextRound and balance. -/
import Derived.Test.YtjajenkagcdhlaaGreatRound
namespace Go.Proofs.YtjajenkagcdhlaaGreat
open Go.RowKit
set_option maxRecDepth 100000

set_option maxHeartbeats 3200000 in
theorem nextRound_any {w0 : Fr} {w : World} {l d g : Nat} {b : Bl} {L : LS} (h : LAt w0 l d b g L w) (ok : L.Ok) (ht : L.D.turns ≤ 90000) :
    Calls Tryz.prog 78 #[.pointer (some ⟨l, 0, none⟩)] w fun e w' => e = .returned (.int .i64 L.next.D.bad) ∧ NextL w0 l d g L.next w w' := by
  have hmany := h.st.dr.ok.many
  have hlen := ok.len
  have hround := ok.round
  have hhome := ok.home
  have hc5 : w.cell? ⟨l, 5, none⟩ = some (.slice (some ⟨g, 0, none⟩) L.ws.length L.ws.length) := h.head.cell 5
  have HT := Lib.hid ht
  have HLen := Lib.hid hlen
  have H0 : Hid (NextL w0 l d g { L with D := L.D.run (homeTo L 0) } w w) := h.same
  obtain ⟨DD, hDD⟩ : ∃ DD, L.D.run L.nextT = DD := ⟨_, rfl⟩
  have HDD := Lib.hid hDD
  have HNx : Hid (L.next = if DD.down then { L with D := DD } else { L with D := DD, round := L.round + 1, posts := 0, laid := 0, ws := List.replicate L.ws.length none }) := by
    show _ = _
    unfold LS.next
    rw [hDD]
  obtain ⟨n, hn⟩ : ∃ n, L.ws.length = n := ⟨_, rfl⟩
  have HWn := Lib.hid hn
  rw [hn] at hc5 hlen hhome
  have hn5 : n ≤ 4096 := by omega
  have hl5 : L.leaves ≤ 4096 := by omega
  generalize L.next = LN at *
  clear h ok ht hDD hn
  go_enter Tryz.func78, Tryz.ntmps78
  go_wp2_with fail
  go_loopw [12] (fun i wx => ∃ k : Nat, k ≤ n ∧ i = .int .i64 k ∧ Hid (NextL w0 l d g { L with D := L.D.run (homeTo L k) } w wx)) (fun i _ => n - (intOf i).toNat)
  case atStart => exact ⟨0, by omega, rfl, H0⟩
  case round =>
    obtain ⟨k, hk, rfl, HN⟩ := hrel
    clear H0 hc5
    have htk := DS.run_turns L.D (homeTo L k)
    have hlk := DS.run_len L.D (homeTo L k)
    have hhk := homeTo_length L k (by rw [HWn.out]; exact hk)
    rw [HWn.out] at hhk
    obtain ⟨bk, AL⟩ := HN.out.1
    have HA := Lib.hid AL
    by_cases hlt : k < n
    · obtain ⟨x, hx⟩ := get_of_lt (l := L.ws) (n := k) (by rw [HWn.out]; exact hlt)
      obtain ⟨v, hcv, hsv⟩ := AL.wri.slot hx
      have HX := Lib.hid hx
      have i0 : (0 : Int) ≤ (k : Int) := by omega
      have i1 : (k : Int) < (n : Int) := by omega
      clear hx AL
      cases x with
      | none =>
        obtain rfl : v = .slice none 0 0 := hsv
        have hq := eql_nil none 0 0
        have HR : Hid (NextL w0 l d g { L with D := L.D.run (homeTo L (k + 1)) } w wr) := by
          show NextL _ _ _ _ _ _ _
          rw [homeTo_none HX.out]
          exact HN.out
        clear htk hlk hhk
        go_wp2_with fail
        exact ⟨⟨k + 1, by omega, by go_num, HR⟩, by simp [intOf]; omega⟩
      | some bs =>
        obtain ⟨h1, o1, c1, rfl, ht1, hb1⟩ := hsv
        have hq := eql_nil (some ⟨h1, o1, none⟩) 96 c1
        have HR : Hid (L.D.run (homeTo L (k + 1)) = (L.D.run (homeTo L k)).step (.lay (2 + L.leaves + k) bs)) := by show _ = _; rw [homeTo_some HX.out, DS.run_snoc]
        have HP : Hid (∃ r, DD = (L.D.run (homeTo L (k + 1))).run r) := by
          obtain ⟨r, hr⟩ := homeTo_part L (k + 1)
          exact ⟨r, by rw [← HDD.out, hr, DS.run_append]⟩
        have HTk : Hid ((L.D.run (homeTo L k)).turns ≤ 99999) := by show _ ≤ _; have := HT.out; omega
        have HLk : Hid (2 + L.leaves + k < (L.D.run (homeTo L k)).T.length) := by show _ < _; rw [hlk, HLen.out, HWn.out]; omega
        have HTr := Lib.hid ht1
        have HD : Hid (Old wr wr.drew) := (Touch.refl _ _).drew
        have HB := Lib.hid (hb1.old HD.out)
        have HSd := Lib.hid (HA.out.st.step HD.out)
        have Hhd := Lib.hid (HA.out.head.touch HD.out (fun q => q))
        have hS : Hid (wr.drew.cell? ⟨l, 0, none⟩ = some (.pointer (some ⟨d, 0, none⟩))) := Hhd.out.cell 0
        have hc0 : wr.cell? ⟨l, 0, none⟩ = some (.pointer (some ⟨d, 0, none⟩)) := HA.out.head.cell 0
        have HTrk := Lib.hid (homeTrack_any Hhd.out k (by show L.leaves ≤ 5000; omega) (by omega))
        have HAL := Lib.hid (HA.out.step HD.out)
        clear hb1 ht1 htk hlk hhk
        go_wp2_with fail
        go_cut [5] (fun v wx => ∃ D1, v = .int .i64 (D1.bad : Int) ∧ Hid (L.D.run (homeTo L (k + 1)) = D1 ∧ NextL w0 l d g { L with D := D1 } w wx))
        case first =>
          go_region_held3 (fun w' => w'.cell? ⟨l, 0, none⟩ = some (.pointer (some ⟨d, 0, none⟩))) (first | exact hS.out | exact hS2.out)
            (first | (go_at_call 79; refine HTrk.out.mono ?_; rintro x w' ⟨rfl, rfl⟩)
                   | (go_at_call 29; refine (lay_byt HSd.out HTk.out (2 + L.leaves + k) _ bs HLk.out HTr.out.len HB.out c1).mono ?_; rintro x w2 ⟨rfl, N2⟩
                      rw [← HR.out] at N2 ⊢
                      have hS2 : Hid (w2.cell? ⟨l, 0, none⟩ = some (.pointer (some ⟨d, 0, none⟩))) := (N2.2.1.blk 129 l _ (by unfold other; decide) Hhd.out).cell 0
                      have HN2 := Lib.hid (HN.out.trans (NextL.trans (HA.out.old HD.out) (HAL.out.nextL N2)))
                      clear N2))
          all_goals
            rename_i hHeld
            clear hHeld
            go_wp2_with fail
            go_meet
            exact ⟨_, rfl, rfl, HN2.out⟩
        case rest =>
          obtain ⟨D1, rfl, HN1⟩ := hcut
          clear HN HA HR HTk HLk HTr HD HB HSd Hhd hS hc0 HTrk HAL hcv hq
          cases hd : D1.down with
          | true =>
            rw [bad_down hd]
            have HE : Hid (LN = { L with D := D1 }) := by
              obtain ⟨r, hr⟩ := HP.out
              have e1 : DD = D1 := by rw [hr, HN1.out.1, DS.run_down hd]
              show _ = _
              rw [HNx.out, e1, hd]
              rfl
            have HB := Lib.hid (bad_down hd)
            clear hd HP HNx
            go_wp2_with fail
            go_ret
            refine ⟨?_, ?_⟩
            · rw [HE.out]; show _ = Ending.returned (.int .i64 (D1.bad : Int)); rw [HB.out]; rfl
            · rw [HE.out]; exact HN1.out.2
          | false =>
            rw [bad_up hd]
            clear hd HP
            have HN' : Hid (NextL w0 l d g { L with D := L.D.run (homeTo L (k + 1)) } w wc) := by show NextL _ _ _ _ _ _ _; rw [HN1.out.1]; exact HN1.out.2
            clear HN1
            go_wp2_with fail
            exact ⟨⟨k + 1, by omega, by go_num, HN'⟩, by simp [intOf]; omega⟩
    · obtain rfl : k = n := by omega
      have HR : Hid (DD = (L.D.run (homeTo L k)).run (beginT (L.round + 1) L.leaves)) := by show _ = _; rw [← HDD.out, nextT_all, DS.run_append, HWn.out]
      have HTk : Hid ((L.D.run (homeTo L k)).turns ≤ 99990) := by show _ ≤ _; have := HT.out; omega
      have HD : Hid (Old wr wr.drew) := (Touch.refl _ _).drew
      have HSd := Lib.hid (HA.out.st.step HD.out)
      have Hhd := Lib.hid (HA.out.head.touch HD.out (fun q => q))
      have hS : Hid (wr.drew.cell? ⟨l, 0, none⟩ = some (.pointer (some ⟨d, 0, none⟩)) ∧ wr.drew.cell? ⟨l, 2, none⟩ = some (.int .i64 (L.round : Int)) ∧ wr.drew.cell? ⟨l, 1, none⟩ = some (.int .i64 (L.leaves : Int))) := ⟨Hhd.out.cell 0, Hhd.out.cell 2, Hhd.out.cell 1⟩
      have HAL := Lib.hid (HA.out.step HD.out)
      have HBg := Lib.hid (begin_any HSd.out HTk.out (L.round + 1) L.leaves (by omega) (by omega))
      have hw1 : IntKind.i64.wrap ((L.round : Int) + 1) = (L.round : Int) + 1 := wrap_fits ⟨by omega, by omega⟩
      have hcast : ((L.round + 1 : Nat) : Int) = (L.round : Int) + 1 := by omega
      rw [hcast] at HBg
      clear AL htk hlk hhk hcast
      go_wp2_with fail
      go_cut [6] (fun v wx => v = .int .i64 (DD.bad : Int) ∧ Hid (NextL w0 l d g { L with D := DD } w wx))
      case first =>
        go_region_held3 (fun w' => w'.cell? ⟨l, 0, none⟩ = some (.pointer (some ⟨d, 0, none⟩)) ∧ w'.cell? ⟨l, 2, none⟩ = some (.int .i64 (L.round : Int)) ∧ w'.cell? ⟨l, 1, none⟩ = some (.int .i64 (L.leaves : Int))) (first | exact hS.out | exact hS2.out)
          (first | (go_at_call 91; refine HBg.out.mono ?_; rintro x w2 ⟨rfl, N2⟩
                    rw [← HR.out] at N2 ⊢
                    have Hh2 := N2.2.1.blk 129 l _ (by unfold other; decide) Hhd.out
                    have hS2 := Lib.hid (And.intro (Hh2.cell 0) (And.intro (Hh2.cell 2) (Hh2.cell 1)))
                    have HN2 := Lib.hid (HN.out.trans (NextL.trans (HA.out.old HD.out) (HAL.out.nextL N2)))
                    clear N2 Hh2))
        all_goals
          rename_i hHeld
          clear hHeld
          go_wp2_with fail
          go_meet
          exact ⟨rfl, HN2⟩
      case rest =>
        obtain ⟨rfl, HN1⟩ := hcut
        clear HN HA HR HTk HD HSd Hhd hS HBg HAL
        cases hd : DD.down with
        | true =>
          rw [bad_down hd]
          have HE : Hid (LN = { L with D := DD }) := by show _ = _; rw [HNx.out, hd]; rfl
          have HB := Lib.hid (bad_down hd)
          clear hd HNx
          go_wp2_with fail
          go_ret
          refine ⟨?_, ?_⟩
          · rw [HE.out]; show _ = Ending.returned (.int .i64 (DD.bad : Int)); rw [HB.out]; rfl
          · rw [HE.out]; exact HN1.out
        | false =>
          rw [bad_up hd]
          have HE : Hid (LN = { L with D := DD, round := L.round + 1, posts := 0, laid := 0, ws := List.replicate k none }) := by show _ = _; rw [HNx.out, hd, HWn.out]; rfl
          have HB := Lib.hid (bad_up hd)
          obtain ⟨b1, A1⟩ := HN1.out.1
          have hh : Blk wc l 129 (lhead d g L) := A1.head
          have hf2 := hh.frozen 2
          have hf3 := hh.frozen 3
          have hf4 := hh.frozen 4
          have hc2 : wc.cell? ⟨l, 2, none⟩ = some (.int .i64 (L.round : Int)) := hh.cell 2
          have hc3 : wc.cell? ⟨l, 3, none⟩ = some (.int .i64 (L.posts : Int)) := hh.cell 3
          have hc4 : wc.cell? ⟨l, 4, none⟩ = some (.int .i64 (L.laid : Int)) := hh.cell 4
          have hc5 : wc.cell? ⟨l, 5, none⟩ = some (.slice (some ⟨g, 0, none⟩) k k) := by have := hh.cell 5; rw [this]; show some (Value.slice _ L.ws.length L.ws.length) = _; rw [HWn.out]
          have hb3 : Blk (((wc.setCell ⟨l, 2, none⟩ (.int .i64 ((L.round : Int) + 1))).setCell ⟨l, 3, none⟩ (.int .i64 0)).setCell ⟨l, 4, none⟩ (.int .i64 0)) l 129 (lhead d g { L with D := DD, round := L.round + 1, posts := 0, laid := 0 }) := by
            have := ((hh.set 2 (.int .i64 ((L.round : Int) + 1))).set 3 (.int .i64 0)).set 4 (.int .i64 0)
            exact this
          have T3 : Touch (fun i => i = l) wc (((wc.setCell ⟨l, 2, none⟩ (.int .i64 ((L.round : Int) + 1))).setCell ⟨l, 3, none⟩ (.int .i64 0)).setCell ⟨l, 4, none⟩ (.int .i64 0)) := ((Touch.one ⟨l, 2, none⟩ _).trans (Touch.one ⟨l, 3, none⟩ _)).trans (Touch.one ⟨l, 4, none⟩ _)
          have A3 : LAt w0 l d b1 g { L with D := DD, round := L.round + 1, posts := 0, laid := 0 } (((wc.setCell ⟨l, 2, none⟩ (.int .i64 ((L.round : Int) + 1))).setCell ⟨l, 3, none⟩ (.int .i64 0)).setCell ⟨l, 4, none⟩ (.int .i64 0)) := A1.head_set rfl rfl hb3 T3
          obtain ⟨cs, hbg, hgl, hgs⟩ := A3.wri
          have hcl := fun ty => clear_run _ g k cs hbg (by rw [hgl]; exact HWn.out) (by omega) ty
          have HW4 := Lib.hid (A3.wri.clear (n := k) HWn.out)
          have HA3 := Lib.hid A3
          have HK3 := Lib.hid (KeptL.of_touch hh (.inl rfl) T3)
          have HKg := Lib.hid hbg
          have HSz := Lib.hid T3.size
          clear hd HNx A1 A3 hgl hgs hb3 T3 hbg hh
          go_wp2_with (first | (at_builtin; refine wpList_clear_run rfl _ 54 rfl _ rfl _ _ (hcl _) ?_))
          go_ret
          have T4 := setCells_touch g (nils k) 0 (((wc.setCell ⟨l, 2, none⟩ (.int .i64 ((L.round : Int) + 1))).setCell ⟨l, 3, none⟩ (.int .i64 0)).setCell ⟨l, 4, none⟩ (.int .i64 0))
          rw [HE.out]
          refine ⟨?_, ⟨b1, HA3.out.wri_set rfl ?_ HW4.out T4⟩, (HN1.out.2.1.trans HK3.out).trans (KeptL.of_touch HKg.out (.inr rfl) T4), Nat.le_trans HN1.out.2.2 (Nat.le_trans HSz.out T4.size)⟩
          · show _ = Ending.returned (.int .i64 (DD.bad : Int)); rw [HB.out]; rfl
          · unfold lhead; simp [HWn.out]

set_option maxHeartbeats 1600000 in
theorem balance_any {w0 : Fr} {w : World} {l d g : Nat} {b : Bl} {L : LS} (h : LAt w0 l d b g L w) (ok : L.Ok) (ht : L.D.turns ≤ 80000) :
    Calls Tryz.prog 85 #[.pointer (some ⟨l, 0, none⟩)] w fun e w' => e = .returned (.int .i64 L.balanced.D.bad) ∧ NextL w0 l d g L.balanced w w' := by
  have hc0 : w.cell? ⟨l, 0, none⟩ = some (.pointer (some ⟨d, 0, none⟩)) := h.head.cell 0
  have H := Lib.hid h
  have HO := Lib.hid ok
  have HT := Lib.hid ht
  have hst := DS.step_turns L.D .settle
  have hsl := DS.step_len L.D .settle
  have HB : Hid (L.balanced = if (L.D.step .settle).down then { L with D := L.D.step .settle } else { L with D := L.D.step .settle : LS }.next) := rfl
  clear h ok ht
  generalize L.balanced = LB at *
  go_enter Tryz.func85, Tryz.ntmps85
  go_wp2_with fail
  refine (settle_turn H.out.st (by have := HT.out; omega)).mono ?_
  rintro x w1 ⟨rfl, N1⟩
  have HN1 := Lib.hid (H.out.nextL N1)
  have HT1 : Hid ((L.D.step .settle).turns ≤ 90000) := by show _ ≤ _; have := HT.out; omega
  have HO1 : Hid (LS.Ok { L with D := L.D.step .settle }) := ⟨HO.out.leaves, HO.out.home, by show (L.D.step .settle).T.length = _; rw [hsl]; exact HO.out.len, HO.out.laid, HO.out.round, HO.out.posts⟩
  clear N1 H HO HT hst hsl hc0
  generalize L.D.step .settle = D1 at *
  cases hd : D1.down with
  | true =>
    rw [bad_down hd]
    have HE : Hid (LB = { L with D := D1 }) := by show _ = _; rw [HB.out, hd]; rfl
    have HBd := Lib.hid (bad_down hd)
    clear hd HB
    go_wp2_with fail
    go_ret
    refine ⟨?_, ?_⟩
    · rw [HE.out]; show _ = Ending.returned (.int .i64 (D1.bad : Int)); rw [HBd.out]; rfl
    · rw [HE.out]; exact HN1.out
  | false =>
    rw [bad_up hd]
    have HE : Hid (LB = { L with D := D1 : LS }.next) := by show _ = _; rw [HB.out, hd]; rfl
    clear hd HB
    obtain ⟨b1, A1⟩ := HN1.out.1
    have HA1 := Lib.hid A1
    clear A1
    go_wp2_with fail
    refine (nextRound_any HA1.out HO1.out HT1.out).mono ?_
    rintro x w2 ⟨rfl, N2⟩
    rw [← HE.out] at N2 ⊢
    have HN2 := Lib.hid (HN1.out.trans N2)
    clear N2
    go_wp2_with fail
    go_ret
    exact ⟨rfl, HN2.out⟩
end Go.Proofs.YtjajenkagcdhlaaGreat
