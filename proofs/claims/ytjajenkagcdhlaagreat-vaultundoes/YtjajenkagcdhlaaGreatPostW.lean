/- The contract of a ledger's post. -/
import Derived.Test.YtjajenkagcdhlaaGreatNextW
namespace Go.Proofs.YtjajenkagcdhlaaGreat
open Go.RowKit
set_option maxRecDepth 100000

theorem leafT_append : ∀ (k : Nat) (xs ys : List (List Nat)), leafT k (xs ++ ys) = leafT k xs ++ leafT (k + xs.length) ys
  | k, [], ys => rfl
  | k, b :: xs, ys => by
    show Trn.lay k b :: leafT (k + 1) (xs ++ ys) = _
    rw [leafT_append (k + 1) xs ys, List.length_cons, show k + 1 + xs.length = k + (xs.length + 1) by omega]
    rfl
theorem leafT_length : ∀ (k : Nat) (xs : List (List Nat)), (leafT k xs).length = xs.length
  | k, [] => rfl
  | k, b :: xs => by show (_ :: leafT (k + 1) xs).length = _; rw [List.length_cons, leafT_length (k + 1) xs, List.length_cons]
theorem leafT_next {k i : Nat} {xs : List (List Nat)} {b : List Nat} (h : xs[i]? = some b) : leafT k (xs.take (i + 1)) = leafT k (xs.take i) ++ [.lay (k + i) b] := by
  have hl := lt_of_get h
  rw [take_get h, leafT_append, List.length_take, Nat.min_eq_left (by omega)]
  rfl
theorem leafT_part (k i : Nat) (xs : List (List Nat)) : ∃ r, leafT k xs = leafT k (xs.take i) ++ r := ⟨leafT (k + (xs.take i).length) (xs.drop i), by rw [← leafT_append, List.take_append_drop]⟩

theorem next_down {L : LS} (h : (L.D.run L.nextT).down = true) : L.next = { L with D := L.D.run L.nextT } := by unfold LS.next; simp only [h, if_true]
theorem next_up {L : LS} (h : (L.D.run L.nextT).down = false) : L.next = { L with D := L.D.run L.nextT, round := L.round + 1, posts := 0, laid := 0, ws := List.replicate L.ws.length none } := by unfold LS.next; simp only [h, Bool.false_eq_true, if_false]
theorem next_D (L : LS) : L.next.D = L.D.run L.nextT := by
  cases h : (L.D.run L.nextT).down with
  | true => rw [next_down h]
  | false => rw [next_up h]
theorem next_len (L : LS) : L.next.D.T.length = L.D.T.length := by rw [next_D]; exact DS.run_len _ _
theorem next_leaves (L : LS) : L.next.leaves = L.leaves := by
  cases h : (L.D.run L.nextT).down with
  | true => rw [next_down h]
  | false => rw [next_up h]
theorem next_home (L : LS) : L.next.ws.length = L.ws.length := by
  cases h : (L.D.run L.nextT).down with
  | true => rw [next_down h]
  | false => rw [next_up h]; simp
theorem next_lost (L : LS) : L.next.lost = L.lost := by
  cases h : (L.D.run L.nextT).down with
  | true => rw [next_down h]
  | false => rw [next_up h]
theorem next_round (L : LS) : L.next.round ≤ L.round + 1 := by
  cases h : (L.D.run L.nextT).down with
  | true => rw [next_down h]; exact Nat.le_succ _
  | false => rw [next_up h]; exact Nat.le_refl _
theorem nextT_length (L : LS) : L.nextT.length ≤ L.ws.length + 3 := by
  have := homeT_length L.leaves 0 L.ws
  unfold LS.nextT beginT
  rw [List.length_append]
  simp
  omega
theorem next_turns (L : LS) : L.next.D.turns ≤ L.D.turns + L.ws.length + 3 := by
  have h1 := DS.run_turns L.D L.nextT
  have h2 := nextT_length L
  rw [next_D]
  omega
theorem LS.Ok.next {L : LS} (h : L.Ok) (hr : L.round < 1000000000000) : L.next.Ok := by
  refine ⟨by rw [next_leaves]; exact h.leaves, by rw [next_home]; exact h.home, by rw [next_len, next_leaves, next_home]; exact h.len, ?_, Nat.le_trans (next_round L) hr, ?_⟩
  · cases hd : (L.D.run L.nextT).down with
    | true => rw [next_down hd]; exact h.laid
    | false => rw [next_up hd]; exact Nat.zero_le _
  · cases hd : (L.D.run L.nextT).down with
    | true => rw [next_down hd]; exact h.posts
    | false => rw [next_up hd]; exact Nat.zero_le _
theorem LS.Ok.with {L : LS} (h : L.Ok) {D : DS} (hD : D.T.length = L.D.T.length) : LS.Ok { L with D := D } := ⟨h.leaves, h.home, by show D.T.length = _; rw [hD]; exact h.len, h.laid, h.round, h.posts⟩
theorem LS.Ok.balanced {L : LS} (h : L.Ok) (hr : L.round < 1000000000000) : L.balanced.Ok := by
  unfold LS.balanced
  split
  · exact h.with (DS.step_len _ _)
  · exact (h.with (DS.step_len _ _)).next hr
theorem balanced_turns (L : LS) : L.balanced.D.turns ≤ L.D.turns + L.ws.length + 4 := by
  have h1 := DS.step_turns L.D .settle
  unfold LS.balanced
  split
  · show (L.D.step .settle).turns ≤ _; omega
  · have := next_turns { L with D := L.D.step .settle }
    simp only at this
    omega
theorem balanced_leaves (L : LS) : L.balanced.leaves = L.leaves := by unfold LS.balanced; split; rfl; rw [next_leaves]
theorem balanced_home (L : LS) : L.balanced.ws.length = L.ws.length := by unfold LS.balanced; split; rfl; rw [next_home]
theorem balanced_lost (L : LS) : L.balanced.lost = L.lost := by unfold LS.balanced; split; rfl; rw [next_lost]
/-- Balanced, all leaves are blank. -/
theorem balanced_laid {L : LS} (h : L.balanced.D.down = false) : L.balanced.laid = 0 ∧ L.balanced.posts = 0 := by
  unfold LS.balanced at h ⊢
  cases hs : (L.D.step .settle).down with
  | true =>
    rw [hs, if_pos rfl] at h
    rw [show ({ L with D := L.D.step .settle } : LS).D.down = (L.D.step .settle).down from rfl, hs] at h
    cases h
  | false =>
    rw [hs, if_neg (by simp)] at h
    rw [if_neg (by simp)]
    rw [next_D] at h
    rw [next_up h]
    exact ⟨rfl, rfl⟩

set_option maxHeartbeats 6400000 in
theorem post_any {w0 : Fr} {w : World} {l d g : Nat} {b : Bl} {L : LS} (h : LAt w0 l d b g L w) (ok : L.Ok) (hr : L.round < 1000000000000) (hp : L.posts < 1000000) (ht : L.D.turns ≤ 70000) (a : Option Addr) (e : List Ent) (len cap : Nat) (En : Ents w a e) (hlen : e.length = len) (hG : Goes e L.ws.length) (hroom : leavesOf len ≤ L.leaves) :
    Calls Tryz.prog 75 #[.pointer (some ⟨l, 0, none⟩), .slice a len cap] w fun x w' => x = .returned (.int .i64 (L.post e).D.bad) ∧ NextL w0 l d g (L.post e) w w' := by
  have hmany := h.st.dr.ok.many
  have hokl := ok.len
  have hlm : len ≤ 4096 := by
    rcases Nat.eq_zero_or_pos len with q | q
    · omega
    · have := leavesOf_pos q
      omega
  have H := Lib.hid h
  have HO := Lib.hid ok
  have HT := Lib.hid ht
  have HE := Lib.hid En
  have HL := Lib.hid hlen
  have HG := Lib.hid hG
  have HLv := Lib.hid (leaves_any len w (by omega))
  have HBk := Lib.hid (blank_any h.head ok.laid (by omega))
  obtain ⟨LP, hLP⟩ : ∃ LP, L.post e = LP := ⟨_, rfl⟩
  have HLP := Lib.hid hLP
  rw [hLP]
  obtain ⟨m, hm⟩ : ∃ m, leavesOf len = m := ⟨_, rfl⟩
  have HMm := Lib.hid hm
  rw [hm] at HLv hroom
  have hml : L.laid ≤ L.leaves := ok.laid
  clear h ok ht En hG hLP hm
  go_enter Tryz.func75, Tryz.ntmps75
  go_wp2_with fail
  refine HLv.out.mono ?_
  rintro x w' ⟨rfl, rfl⟩
  go_wp2_with fail
  refine HBk.out.mono ?_
  rintro x w1 ⟨rfl, O1⟩
  have HA1 := Lib.hid (H.out.step O1)
  have HN1 := Lib.hid (H.out.old O1)
  clear O1 HLv HBk
  by_cases hbal : L.leaves - L.laid < m
  · have hb' : ((L.leaves - L.laid : Nat) : Int) < (m : Int) := by omega
    have HLB : Hid (LP = if L.balanced.D.down then L.balanced else L.balanced.layP e) := by
      show _ = _
      rw [← HLP.out]
      unfold LS.post
      rw [HL.out, HMm.out, if_pos hbal]
    go_wp2_with fail
    refine (balance_any HA1.out HO.out (by have := HT.out; omega)).mono ?_
    rintro x w2 ⟨rfl, N2⟩
    have HN2 := Lib.hid (HN1.out.trans N2)
    clear N2
    cases hd : L.balanced.D.down with
    | true =>
      rw [bad_down hd]
      have HE' : Hid (LP = L.balanced) := by show _ = _; rw [HLB.out, hd]; rfl
      have HBd := Lib.hid (bad_down hd)
      clear hd HLB
      go_wp2_with fail
      go_ret
      refine ⟨?_, ?_⟩
      · rw [HE'.out, HBd.out]; rfl
      · rw [HE'.out]; exact HN2.out
    | false =>
      rw [bad_up hd]
      have HLB' : Hid (LP = L.balanced.layP e) := by show _ = _; rw [HLB.out, hd]; rfl
      have hbl := balanced_laid hd
      have HO1 := Lib.hid (HO.out.balanced hr)
      have HT1 : Hid (L.balanced.D.turns ≤ 80000) := by show _ ≤ _; have := balanced_turns L; have := HT.out; omega
      have HW1 := Lib.hid (balanced_home L)
      have HRm : Hid (L.balanced.laid + m ≤ L.balanced.leaves) := by show _ ≤ _; rw [hbl.1, balanced_leaves]; omega
      have hr1 : L.balanced.round ≤ 1000000000000 := HO1.out.round
      have hp1 : L.balanced.posts < 1000000 := by rw [hbl.2]; omega
      have hl1 : L.balanced.leaves ≤ 4096 := by rw [balanced_leaves]; omega
      clear hd HLB hbl hb'
      have HLB := HLB'
      clear HLB'
      generalize L.balanced = L1 at *
      obtain ⟨b1, A1⟩ := HN2.out.1
      have HA := Lib.hid A1
      have HD : Hid (Old w2 w2.drew) := (Touch.refl _ _).drew
      have HAd := Lib.hid (A1.step HD.out)
      have Hhd := Lib.hid HAd.out.head
      have HEn := Lib.hid ((HE.out.keptL HN2.out.2.1).old HD.out)
      have hS : Hid (w2.drew.cell? ⟨l, 2, none⟩ = some (.int .i64 (L1.round : Int)) ∧ w2.drew.cell? ⟨l, 3, none⟩ = some (.int .i64 (L1.posts : Int))) := ⟨Hhd.out.cell 2, Hhd.out.cell 3⟩
      have HLt := Lib.hid (layText_any a e len cap L1.round (L1.posts + 1) w2.drew HEn.out HL.out (by rw [← HL.out]; exact HG.out.2.2) (by omega) (fun x hx => (HG.out.1 x hx).2) (fun x hx => by have := (HG.out.1 x hx).1; omega) (by omega) (by omega))
      rw [HMm.out] at HLt
      have hcast : ((L1.posts + 1 : Nat) : Int) = (L1.posts : Int) + 1 := by omega
      rw [hcast] at HLt
      have hw1 : IntKind.i64.wrap ((L1.posts : Int) + 1) = (L1.posts : Int) + 1 := wrap_fits ⟨by omega, by omega⟩
      obtain ⟨PP, hPP⟩ : ∃ PP, posting L1.round (L1.posts + 1) e = PP := ⟨_, rfl⟩
      have HPP := Lib.hid hPP
      have HPl : Hid (PP.length = m) := by show _ = _; rw [← hPP]; unfold posting; rw [List.length_map, List.length_range, HL.out, HMm.out]
      rw [hPP] at HLt
      obtain ⟨DD, hDD⟩ : ∃ DD, L1.D.run (leafT (2 + L1.laid) PP) = DD := ⟨_, rfl⟩
      have HDD := Lib.hid hDD
      have HLQ : Hid (LP = if DD.down then { L1 with D := DD } else { L1 with D := DD, posts := L1.posts + 1, laid := L1.laid + m, ws := took L1.ws e }) := by
        show _ = _
        rw [HLB.out]
        unfold LS.layP
        rw [hPP, hDD, HL.out, HMm.out]
      clear A1 hPP hDD hcast HLB HLP HN1 HA1
      go_wp2_with fail
      go_cut [6] (fun v wx => ∃ g3, v = .slice (some ⟨g3, 0, none⟩) m m ∧ Hid (NextL w0 l d g L1 w wx ∧ Pgs wx (some ⟨g3, 0, none⟩) PP))
      case first =>
        go_region_held3 (fun w' => w'.cell? ⟨l, 2, none⟩ = some (.int .i64 (L1.round : Int)) ∧ w'.cell? ⟨l, 3, none⟩ = some (.int .i64 (L1.posts : Int))) (first | exact hS.out | exact hS2.out)
          (first | (go_at_call 98; refine HLt.out.mono ?_; rintro x w3 ⟨g3, rfl, hg3, P3, O3⟩
                    have Hh3 := Hhd.out.touch O3 (fun q => q)
                    have hS2 := Lib.hid (And.intro (Hh3.cell 2) (Hh3.cell 3))
                    have HN3 := Lib.hid (HN2.out.trans (HA.out.old (HD.out.trans O3)))
                    have HP3 := Lib.hid P3
                    clear P3 O3 hg3 Hh3))
        all_goals
          rename_i hHeld
          clear hHeld
          go_wp2_with fail
          go_meet
          exact ⟨_, rfl, HN3.out, HP3.out⟩
      case rest =>
        obtain ⟨g3, rfl, HC⟩ := hcut
        have HN3 := Lib.hid HC.out.1
        have HP3 := Lib.hid HC.out.2
        clear HC HN2 HA HD HAd Hhd HEn hS HLt
        have H0 : Hid (NextL w0 l d g { L1 with D := L1.D.run (leafT (2 + L1.laid) (PP.take 0)) } w wc) := HN3.out
        go_wp2_with fail
        go_loopw [34] (fun i wx => ∃ k : Nat, k ≤ m ∧ i = .int .i64 k ∧ Hid (NextL w0 l d g { L1 with D := L1.D.run (leafT (2 + L1.laid) (PP.take k)) } w wx ∧ Pgs wx (some ⟨g3, 0, none⟩) PP ∧ (k = 0 ∨ (L1.D.run (leafT (2 + L1.laid) (PP.take k))).down = false))) (fun i _ => m - (intOf i).toNat)
        case atStart => exact ⟨0, by omega, rfl, H0.out, HP3.out, .inl rfl⟩
        case round =>
          obtain ⟨k, hk, rfl, HC⟩ := hrel
          have HN := Lib.hid HC.out.1
          have HP := Lib.hid HC.out.2.1
          have HZk := Lib.hid HC.out.2.2
          clear HC H0 HN3 HP3
          have htk := DS.run_turns L1.D (leafT (2 + L1.laid) (PP.take k))
          have hlk := DS.run_len L1.D (leafT (2 + L1.laid) (PP.take k))
          rw [leafT_length, List.length_take, HPl.out] at htk
          obtain ⟨bk, AL⟩ := HN.out.1
          have HA := Lib.hid AL
          clear AL
          by_cases hlt : k < m
          · obtain ⟨y, hy⟩ := get_of_lt (l := PP) (n := k) (by rw [HPl.out]; exact hlt)
            obtain ⟨b3, o3, py, ee, hcy, hy96, hyB⟩ := HP.out.pg k y hy
            cases ee
            rw [Nat.zero_add] at hcy
            have i0 : (0 : Int) ≤ (k : Int) := by omega
            have i1 : (k : Int) < (m : Int) := by omega
            have HR : Hid (L1.D.run (leafT (2 + L1.laid) (PP.take (k + 1))) = (L1.D.run (leafT (2 + L1.laid) (PP.take k))).step (.lay (2 + L1.laid + k) y)) := by show _ = _; rw [leafT_next hy, DS.run_snoc]
            have HPt : Hid (∃ r, DD = (L1.D.run (leafT (2 + L1.laid) (PP.take (k + 1)))).run r) := by
              obtain ⟨r, hr⟩ := leafT_part (2 + L1.laid) (k + 1) PP
              exact ⟨r, by rw [← HDD.out, ← DS.run_append, ← hr]⟩
            have HTk : Hid ((L1.D.run (leafT (2 + L1.laid) (PP.take k))).turns ≤ 99999) := by show _ ≤ _; have := HT1.out; omega
            have HLk : Hid (2 + L1.laid + k < (L1.D.run (leafT (2 + L1.laid) (PP.take k))).T.length) := by show _ < _; rw [hlk, HO1.out.len]; have := HRm.out; omega
            have HY := Lib.hid hy96
            have HD : Hid (Old wr wr.drew) := (Touch.refl _ _).drew
            have HB := Lib.hid (hyB.old HD.out)
            have HSd := Lib.hid (HA.out.st.step HD.out)
            have Hhd := Lib.hid (HA.out.head.touch HD.out (fun q => q))
            have HPd := Lib.hid (HP.out.old HD.out)
            have hS : Hid (wr.drew.cell? ⟨l, 0, none⟩ = some (.pointer (some ⟨d, 0, none⟩)) ∧ wr.drew.cell? ⟨l, 4, none⟩ = some (.int .i64 (L1.laid : Int))) := ⟨Hhd.out.cell 0, Hhd.out.cell 4⟩
            have HAL := Lib.hid (HA.out.step HD.out)
            have hlv := HRm.out
            have j1 : IntKind.i64.wrap (2 + (L1.laid : Int)) = 2 + (L1.laid : Int) := wrap_fits ⟨by omega, by omega⟩
            have j2 : IntKind.i64.wrap (2 + (L1.laid : Int) + (k : Int)) = 2 + (L1.laid : Int) + (k : Int) := wrap_fits ⟨by omega, by omega⟩
            have HLay := Lib.hid (lay_byt HSd.out HTk.out (2 + L1.laid + k) py y HLk.out HY.out HB.out 96)
            have hcast : ((2 + L1.laid + k : Nat) : Int) = 2 + (L1.laid : Int) + (k : Int) := by omega
            rw [hcast] at HLay
            clear hyB hy96 hy htk hlk hcast
            go_wp2_with fail
            go_cut [9] (fun v wx => ∃ D1, v = .int .i64 (D1.bad : Int) ∧ Hid (L1.D.run (leafT (2 + L1.laid) (PP.take (k + 1))) = D1 ∧ NextL w0 l d g { L1 with D := D1 } w wx ∧ Pgs wx (some ⟨g3, 0, none⟩) PP))
            case first =>
              go_region_held3 (fun w' => w'.cell? ⟨l, 0, none⟩ = some (.pointer (some ⟨d, 0, none⟩)) ∧ w'.cell? ⟨l, 4, none⟩ = some (.int .i64 (L1.laid : Int))) (first | exact hS.out | exact hS2.out)
                (first | (go_at_call 29; refine HLay.out.mono ?_; rintro x w4 ⟨rfl, N4⟩
                          rw [← HR.out] at N4 ⊢
                          have Hh4 := N4.2.1.blk 129 l _ (by unfold other; decide) Hhd.out
                          have hS2 := Lib.hid (And.intro (Hh4.cell 0) (Hh4.cell 4))
                          have HN4 := Lib.hid (HN.out.trans (NextL.trans (HA.out.old HD.out) (HAL.out.nextL N4)))
                          have HP4 := Lib.hid (HPd.out.kept N4.2.1)
                          clear N4 Hh4))
              all_goals
                rename_i hHeld
                clear hHeld
                go_wp2_with fail
                go_meet
                exact ⟨_, rfl, rfl, HN4.out, HP4.out⟩
            case rest =>
              obtain ⟨D1, rfl, HN1⟩ := hcut
              clear HN HA HR HTk HLk HY HD HB HSd Hhd hS HAL HPd HLay HP hcy j1 j2
              cases hd : D1.down with
              | true =>
                rw [bad_down hd]
                have HE' : Hid (LP = { L1 with D := D1 }) := by
                  obtain ⟨r, hr⟩ := HPt.out
                  have e1 : DD = D1 := by rw [hr, HN1.out.1, DS.run_down hd]
                  show _ = _
                  rw [HLQ.out, e1, hd]
                  rfl
                have HBd := Lib.hid (bad_down hd)
                clear hd HPt HLQ
                go_wp2_with fail
                go_ret
                refine ⟨?_, ?_⟩
                · rw [HE'.out]; show _ = Ending.returned (.int .i64 (D1.bad : Int)); rw [HBd.out]; rfl
                · rw [HE'.out]; exact HN1.out.2.1
              | false =>
                rw [bad_up hd]
                have HN' : Hid (NextL w0 l d g { L1 with D := L1.D.run (leafT (2 + L1.laid) (PP.take (k + 1))) } w wc ∧ Pgs wc (some ⟨g3, 0, none⟩) PP ∧ (k + 1 = 0 ∨ (L1.D.run (leafT (2 + L1.laid) (PP.take (k + 1)))).down = false)) := by show _ ∧ _; rw [HN1.out.1]; exact ⟨HN1.out.2.1, HN1.out.2.2, .inr hd⟩
                clear HN1 hd HPt
                go_wp2_with fail
                exact ⟨⟨k + 1, by omega, by go_num, HN'⟩, by simp [intOf]; omega⟩
          · obtain rfl : k = m := by omega
            have HN' : Hid (NextL w0 l d g { L1 with D := DD } w wr) := by
              show NextL _ _ _ _ _ _ _
              have := HN.out
              rw [List.take_of_length_le (by rw [HPl.out]; exact Nat.le_refl _), HDD.out] at this
              exact this
            obtain ⟨b4, A4⟩ := HN'.out.1
            have hh : Blk wr l 129 (lhead d g L1) := A4.head
            have hc3 : wr.cell? ⟨l, 3, none⟩ = some (.int .i64 (L1.posts : Int)) := hh.cell 3
            have hc4 : wr.cell? ⟨l, 4, none⟩ = some (.int .i64 (L1.laid : Int)) := hh.cell 4
            have hf3 := hh.frozen 3
            have hf4 := hh.frozen 4
            have hdn : DD.down = false := by
              rcases HZk.out with q | q
              · have := leavesOf_two (n := len) (by rw [← HL.out]; exact HG.out.2.2)
                rw [HMm.out] at this
                omega
              · rw [List.take_of_length_le (by rw [HPl.out]; exact Nat.le_refl _), HDD.out] at q
                exact q
            have HE' : Hid (LP = { L1 with D := DD, posts := L1.posts + 1, laid := L1.laid + k, ws := took L1.ws e }) := by show _ = _; rw [HLQ.out, hdn]; rfl
            have HBd := Lib.hid (bad_up hdn)
            have hlv := HRm.out
            have hb2 : Blk ((wr.setCell ⟨l, 3, none⟩ (.int .i64 ((L1.posts : Int) + 1))).setCell ⟨l, 4, none⟩ (.int .i64 ((L1.laid : Int) + (k : Int)))) l 129 (lhead d g { L1 with D := DD, posts := L1.posts + 1, laid := L1.laid + k }) := by
              have := (hh.set 3 (.int .i64 ((L1.posts : Int) + 1))).set 4 (.int .i64 ((L1.laid : Int) + (k : Int)))
              have e1 : ((L1.laid + k : Nat) : Int) = (L1.laid : Int) + (k : Int) := by omega
              unfold lhead
              simp only [e1]
              exact this
            have T2 : Touch (fun i => i = l) wr ((wr.setCell ⟨l, 3, none⟩ (.int .i64 ((L1.posts : Int) + 1))).setCell ⟨l, 4, none⟩ (.int .i64 ((L1.laid : Int) + (k : Int)))) := (Touch.one ⟨l, 3, none⟩ _).trans (Touch.one ⟨l, 4, none⟩ _)
            have HA5 : Hid (LAt w0 l d b4 g { L1 with D := DD, posts := L1.posts + 1, laid := L1.laid + k } ((wr.setCell ⟨l, 3, none⟩ (.int .i64 ((L1.posts : Int) + 1))).setCell ⟨l, 4, none⟩ (.int .i64 ((L1.laid : Int) + (k : Int))))) := A4.head_set rfl rfl hb2 T2
            have HK5 := Lib.hid (HN'.out.2.1.trans (KeptL.of_touch hh (.inl rfl) T2))
            have HZ5 := Lib.hid (Nat.le_trans HN'.out.2.2 T2.size)
            have j1 : IntKind.i64.wrap ((L1.laid : Int) + (k : Int)) = (L1.laid : Int) + (k : Int) := wrap_fits ⟨by omega, by omega⟩
            clear A4 hb2 T2 hdn hh HN HP htk hlk HLQ
            go_wp2_with fail
            generalize (wr.setCell ⟨l, 3, none⟩ (.int .i64 ((L1.posts : Int) + 1))).setCell ⟨l, 4, none⟩ (.int .i64 ((L1.laid : Int) + (k : Int))) = w5 at *
            refine (take_any l d g { L1 with D := DD, posts := L1.posts + 1, laid := L1.laid + k } a e len cap w5 HA5.out.head HA5.out.wri (HE.out.keptL HK5.out) HL.out (by omega) (fun x hx => by show x.1 < L1.ws.length ∧ _; rw [HW1.out]; exact HG.out.1 x hx) (by show L1.ws.length ≤ 5000; rw [HW1.out]; omega)).mono ?_
            rintro x w6 ⟨rfl, W6, T6⟩
            obtain ⟨cs, hb6⟩ := HA5.out.wri.blk
            have HA6 : Hid (LAt w0 l d b4 g { L1 with D := DD, posts := L1.posts + 1, laid := L1.laid + k, ws := took L1.ws e } w6) := HA5.out.wri_set rfl (by unfold lhead; simp [took_length]) W6 T6
            have HK6 := Lib.hid (HK5.out.trans (KeptL.of_touch hb6 (.inr rfl) T6))
            have HZ6 := Lib.hid (Nat.le_trans HZ5.out T6.size)
            clear W6 T6 hb6
            go_wp2_with fail
            go_ret
            rw [HE'.out]
            refine ⟨?_, ⟨b4, HA6.out⟩, HK6.out, HZ6.out⟩
            show _ = Ending.returned (.int .i64 (DD.bad : Int))
            rw [HBd.out]
            rfl
  · have hb' : ¬ ((L.leaves - L.laid : Nat) : Int) < (m : Int) := by omega
    have HLB : Hid (LP = L.layP e) := by
      show _ = _
      rw [← HLP.out]
      unfold LS.post
      rw [HL.out, HMm.out, if_neg hbal]
    have HO1 := HO
    have HT1 : Hid (L.D.turns ≤ 80000) := by show _ ≤ _; have := HT.out; omega
    have HRm : Hid (L.laid + m ≤ L.leaves) := by show _ ≤ _; omega
    have hr1 : L.round ≤ 1000000000000 := HO1.out.round
    have hp1 := hp
    have hl1 : L.leaves ≤ 4096 := by omega
    have HN2 := HN1
    go_wp2_with fail
    obtain ⟨b1, A1⟩ := HN2.out.1
    have HA := Lib.hid A1
    have HD : Hid (Old w1 w1.drew) := (Touch.refl _ _).drew
    have HAd := Lib.hid (A1.step HD.out)
    have Hhd := Lib.hid HAd.out.head
    have HEn := Lib.hid ((HE.out.keptL HN2.out.2.1).old HD.out)
    have hS : Hid (w1.drew.cell? ⟨l, 2, none⟩ = some (.int .i64 (L.round : Int)) ∧ w1.drew.cell? ⟨l, 3, none⟩ = some (.int .i64 (L.posts : Int))) := ⟨Hhd.out.cell 2, Hhd.out.cell 3⟩
    have HLt := Lib.hid (layText_any a e len cap L.round (L.posts + 1) w1.drew HEn.out HL.out (by rw [← HL.out]; exact HG.out.2.2) (by omega) (fun x hx => (HG.out.1 x hx).2) (fun x hx => by have := (HG.out.1 x hx).1; omega) (by omega) (by omega))
    rw [HMm.out] at HLt
    have hcast : ((L.posts + 1 : Nat) : Int) = (L.posts : Int) + 1 := by omega
    rw [hcast] at HLt
    have hw1 : IntKind.i64.wrap ((L.posts : Int) + 1) = (L.posts : Int) + 1 := wrap_fits ⟨by omega, by omega⟩
    obtain ⟨PP, hPP⟩ : ∃ PP, posting L.round (L.posts + 1) e = PP := ⟨_, rfl⟩
    have HPP := Lib.hid hPP
    have HPl : Hid (PP.length = m) := by show _ = _; rw [← hPP]; unfold posting; rw [List.length_map, List.length_range, HL.out, HMm.out]
    rw [hPP] at HLt
    obtain ⟨DD, hDD⟩ : ∃ DD, L.D.run (leafT (2 + L.laid) PP) = DD := ⟨_, rfl⟩
    have HDD := Lib.hid hDD
    have HLQ : Hid (LP = if DD.down then { L with D := DD } else { L with D := DD, posts := L.posts + 1, laid := L.laid + m, ws := took L.ws e }) := by
      show _ = _
      rw [HLB.out]
      unfold LS.layP
      rw [hPP, hDD, HL.out, HMm.out]
    clear A1 hPP hDD hcast HLB HLP HN1 HA1
    go_wp2_with fail
    go_cut [6] (fun v wx => ∃ g3, v = .slice (some ⟨g3, 0, none⟩) m m ∧ Hid (NextL w0 l d g L w wx ∧ Pgs wx (some ⟨g3, 0, none⟩) PP))
    case first =>
      go_region_held3 (fun w' => w'.cell? ⟨l, 2, none⟩ = some (.int .i64 (L.round : Int)) ∧ w'.cell? ⟨l, 3, none⟩ = some (.int .i64 (L.posts : Int))) (first | exact hS.out | exact hS2.out)
        (first | (go_at_call 98; refine HLt.out.mono ?_; rintro x w3 ⟨g3, rfl, hg3, P3, O3⟩
                  have Hh3 := Hhd.out.touch O3 (fun q => q)
                  have hS2 := Lib.hid (And.intro (Hh3.cell 2) (Hh3.cell 3))
                  have HN3 := Lib.hid (HN2.out.trans (HA.out.old (HD.out.trans O3)))
                  have HP3 := Lib.hid P3
                  clear P3 O3 hg3 Hh3))
      all_goals
        rename_i hHeld
        clear hHeld
        go_wp2_with fail
        go_meet
        exact ⟨_, rfl, HN3.out, HP3.out⟩
    case rest =>
      obtain ⟨g3, rfl, HC⟩ := hcut
      have HN3 := Lib.hid HC.out.1
      have HP3 := Lib.hid HC.out.2
      clear HC HN2 HA HD HAd Hhd HEn hS HLt
      have H0 : Hid (NextL w0 l d g { L with D := L.D.run (leafT (2 + L.laid) (PP.take 0)) } w wc) := HN3.out
      go_wp2_with fail
      go_loopw [34] (fun i wx => ∃ k : Nat, k ≤ m ∧ i = .int .i64 k ∧ Hid (NextL w0 l d g { L with D := L.D.run (leafT (2 + L.laid) (PP.take k)) } w wx ∧ Pgs wx (some ⟨g3, 0, none⟩) PP ∧ (k = 0 ∨ (L.D.run (leafT (2 + L.laid) (PP.take k))).down = false))) (fun i _ => m - (intOf i).toNat)
      case atStart => exact ⟨0, by omega, rfl, H0.out, HP3.out, .inl rfl⟩
      case round =>
        obtain ⟨k, hk, rfl, HC⟩ := hrel
        have HN := Lib.hid HC.out.1
        have HP := Lib.hid HC.out.2.1
        have HZk := Lib.hid HC.out.2.2
        clear HC H0 HN3 HP3
        have htk := DS.run_turns L.D (leafT (2 + L.laid) (PP.take k))
        have hlk := DS.run_len L.D (leafT (2 + L.laid) (PP.take k))
        rw [leafT_length, List.length_take, HPl.out] at htk
        obtain ⟨bk, AL⟩ := HN.out.1
        have HA := Lib.hid AL
        clear AL
        by_cases hlt : k < m
        · obtain ⟨y, hy⟩ := get_of_lt (l := PP) (n := k) (by rw [HPl.out]; exact hlt)
          obtain ⟨b3, o3, py, ee, hcy, hy96, hyB⟩ := HP.out.pg k y hy
          cases ee
          rw [Nat.zero_add] at hcy
          have i0 : (0 : Int) ≤ (k : Int) := by omega
          have i1 : (k : Int) < (m : Int) := by omega
          have HR : Hid (L.D.run (leafT (2 + L.laid) (PP.take (k + 1))) = (L.D.run (leafT (2 + L.laid) (PP.take k))).step (.lay (2 + L.laid + k) y)) := by show _ = _; rw [leafT_next hy, DS.run_snoc]
          have HPt : Hid (∃ r, DD = (L.D.run (leafT (2 + L.laid) (PP.take (k + 1)))).run r) := by
            obtain ⟨r, hr⟩ := leafT_part (2 + L.laid) (k + 1) PP
            exact ⟨r, by rw [← HDD.out, ← DS.run_append, ← hr]⟩
          have HTk : Hid ((L.D.run (leafT (2 + L.laid) (PP.take k))).turns ≤ 99999) := by show _ ≤ _; have := HT1.out; omega
          have HLk : Hid (2 + L.laid + k < (L.D.run (leafT (2 + L.laid) (PP.take k))).T.length) := by show _ < _; rw [hlk, HO1.out.len]; have := HRm.out; omega
          have HY := Lib.hid hy96
          have HD : Hid (Old wr wr.drew) := (Touch.refl _ _).drew
          have HB := Lib.hid (hyB.old HD.out)
          have HSd := Lib.hid (HA.out.st.step HD.out)
          have Hhd := Lib.hid (HA.out.head.touch HD.out (fun q => q))
          have HPd := Lib.hid (HP.out.old HD.out)
          have hS : Hid (wr.drew.cell? ⟨l, 0, none⟩ = some (.pointer (some ⟨d, 0, none⟩)) ∧ wr.drew.cell? ⟨l, 4, none⟩ = some (.int .i64 (L.laid : Int))) := ⟨Hhd.out.cell 0, Hhd.out.cell 4⟩
          have HAL := Lib.hid (HA.out.step HD.out)
          have hlv := HRm.out
          have j1 : IntKind.i64.wrap (2 + (L.laid : Int)) = 2 + (L.laid : Int) := wrap_fits ⟨by omega, by omega⟩
          have j2 : IntKind.i64.wrap (2 + (L.laid : Int) + (k : Int)) = 2 + (L.laid : Int) + (k : Int) := wrap_fits ⟨by omega, by omega⟩
          have HLay := Lib.hid (lay_byt HSd.out HTk.out (2 + L.laid + k) py y HLk.out HY.out HB.out 96)
          have hcast : ((2 + L.laid + k : Nat) : Int) = 2 + (L.laid : Int) + (k : Int) := by omega
          rw [hcast] at HLay
          clear hyB hy96 hy htk hlk hcast
          go_wp2_with fail
          go_cut [9] (fun v wx => ∃ D1, v = .int .i64 (D1.bad : Int) ∧ Hid (L.D.run (leafT (2 + L.laid) (PP.take (k + 1))) = D1 ∧ NextL w0 l d g { L with D := D1 } w wx ∧ Pgs wx (some ⟨g3, 0, none⟩) PP))
          case first =>
            go_region_held3 (fun w' => w'.cell? ⟨l, 0, none⟩ = some (.pointer (some ⟨d, 0, none⟩)) ∧ w'.cell? ⟨l, 4, none⟩ = some (.int .i64 (L.laid : Int))) (first | exact hS.out | exact hS2.out)
              (first | (go_at_call 29; refine HLay.out.mono ?_; rintro x w4 ⟨rfl, N4⟩
                        rw [← HR.out] at N4 ⊢
                        have Hh4 := N4.2.1.blk 129 l _ (by unfold other; decide) Hhd.out
                        have hS2 := Lib.hid (And.intro (Hh4.cell 0) (Hh4.cell 4))
                        have HN4 := Lib.hid (HN.out.trans (NextL.trans (HA.out.old HD.out) (HAL.out.nextL N4)))
                        have HP4 := Lib.hid (HPd.out.kept N4.2.1)
                        clear N4 Hh4))
            all_goals
              rename_i hHeld
              clear hHeld
              go_wp2_with fail
              go_meet
              exact ⟨_, rfl, rfl, HN4.out, HP4.out⟩
          case rest =>
            obtain ⟨D1, rfl, HN1⟩ := hcut
            clear HN HA HR HTk HLk HY HD HB HSd Hhd hS HAL HPd HLay HP hcy j1 j2
            cases hd : D1.down with
            | true =>
              rw [bad_down hd]
              have HE' : Hid (LP = { L with D := D1 }) := by
                obtain ⟨r, hr⟩ := HPt.out
                have e1 : DD = D1 := by rw [hr, HN1.out.1, DS.run_down hd]
                show _ = _
                rw [HLQ.out, e1, hd]
                rfl
              have HBd := Lib.hid (bad_down hd)
              clear hd HPt HLQ
              go_wp2_with fail
              go_ret
              refine ⟨?_, ?_⟩
              · rw [HE'.out]; show _ = Ending.returned (.int .i64 (D1.bad : Int)); rw [HBd.out]; rfl
              · rw [HE'.out]; exact HN1.out.2.1
            | false =>
              rw [bad_up hd]
              have HN' : Hid (NextL w0 l d g { L with D := L.D.run (leafT (2 + L.laid) (PP.take (k + 1))) } w wc ∧ Pgs wc (some ⟨g3, 0, none⟩) PP ∧ (k + 1 = 0 ∨ (L.D.run (leafT (2 + L.laid) (PP.take (k + 1)))).down = false)) := by show _ ∧ _; rw [HN1.out.1]; exact ⟨HN1.out.2.1, HN1.out.2.2, .inr hd⟩
              clear HN1 hd HPt
              go_wp2_with fail
              exact ⟨⟨k + 1, by omega, by go_num, HN'⟩, by simp [intOf]; omega⟩
        · obtain rfl : k = m := by omega
          have HN' : Hid (NextL w0 l d g { L with D := DD } w wr) := by
            show NextL _ _ _ _ _ _ _
            have := HN.out
            rw [List.take_of_length_le (by rw [HPl.out]; exact Nat.le_refl _), HDD.out] at this
            exact this
          obtain ⟨b4, A4⟩ := HN'.out.1
          have hh : Blk wr l 129 (lhead d g L) := A4.head
          have hc3 : wr.cell? ⟨l, 3, none⟩ = some (.int .i64 (L.posts : Int)) := hh.cell 3
          have hc4 : wr.cell? ⟨l, 4, none⟩ = some (.int .i64 (L.laid : Int)) := hh.cell 4
          have hf3 := hh.frozen 3
          have hf4 := hh.frozen 4
          have hdn : DD.down = false := by
            rcases HZk.out with q | q
            · have := leavesOf_two (n := len) (by rw [← HL.out]; exact HG.out.2.2)
              rw [HMm.out] at this
              omega
            · rw [List.take_of_length_le (by rw [HPl.out]; exact Nat.le_refl _), HDD.out] at q
              exact q
          have HE' : Hid (LP = { L with D := DD, posts := L.posts + 1, laid := L.laid + k, ws := took L.ws e }) := by show _ = _; rw [HLQ.out, hdn]; rfl
          have HBd := Lib.hid (bad_up hdn)
          have hlv := HRm.out
          have hb2 : Blk ((wr.setCell ⟨l, 3, none⟩ (.int .i64 ((L.posts : Int) + 1))).setCell ⟨l, 4, none⟩ (.int .i64 ((L.laid : Int) + (k : Int)))) l 129 (lhead d g { L with D := DD, posts := L.posts + 1, laid := L.laid + k }) := by
            have := (hh.set 3 (.int .i64 ((L.posts : Int) + 1))).set 4 (.int .i64 ((L.laid : Int) + (k : Int)))
            have e1 : ((L.laid + k : Nat) : Int) = (L.laid : Int) + (k : Int) := by omega
            unfold lhead
            simp only [e1]
            exact this
          have T2 : Touch (fun i => i = l) wr ((wr.setCell ⟨l, 3, none⟩ (.int .i64 ((L.posts : Int) + 1))).setCell ⟨l, 4, none⟩ (.int .i64 ((L.laid : Int) + (k : Int)))) := (Touch.one ⟨l, 3, none⟩ _).trans (Touch.one ⟨l, 4, none⟩ _)
          have HA5 : Hid (LAt w0 l d b4 g { L with D := DD, posts := L.posts + 1, laid := L.laid + k } ((wr.setCell ⟨l, 3, none⟩ (.int .i64 ((L.posts : Int) + 1))).setCell ⟨l, 4, none⟩ (.int .i64 ((L.laid : Int) + (k : Int))))) := A4.head_set rfl rfl hb2 T2
          have HK5 := Lib.hid (HN'.out.2.1.trans (KeptL.of_touch hh (.inl rfl) T2))
          have HZ5 := Lib.hid (Nat.le_trans HN'.out.2.2 T2.size)
          have j1 : IntKind.i64.wrap ((L.laid : Int) + (k : Int)) = (L.laid : Int) + (k : Int) := wrap_fits ⟨by omega, by omega⟩
          clear A4 hb2 T2 hdn hh HN HP htk hlk HLQ
          go_wp2_with fail
          generalize (wr.setCell ⟨l, 3, none⟩ (.int .i64 ((L.posts : Int) + 1))).setCell ⟨l, 4, none⟩ (.int .i64 ((L.laid : Int) + (k : Int))) = w5 at *
          refine (take_any l d g { L with D := DD, posts := L.posts + 1, laid := L.laid + k } a e len cap w5 HA5.out.head HA5.out.wri (HE.out.keptL HK5.out) HL.out (by omega) (fun x hx => by show x.1 < L.ws.length ∧ _; exact HG.out.1 x hx) (by show L.ws.length ≤ 5000; omega)).mono ?_
          rintro x w6 ⟨rfl, W6, T6⟩
          obtain ⟨cs, hb6⟩ := HA5.out.wri.blk
          have HA6 : Hid (LAt w0 l d b4 g { L with D := DD, posts := L.posts + 1, laid := L.laid + k, ws := took L.ws e } w6) := HA5.out.wri_set rfl (by unfold lhead; simp [took_length]) W6 T6
          have HK6 := Lib.hid (HK5.out.trans (KeptL.of_touch hb6 (.inr rfl) T6))
          have HZ6 := Lib.hid (Nat.le_trans HZ5.out T6.size)
          clear W6 T6 hb6
          go_wp2_with fail
          go_ret
          rw [HE'.out]
          refine ⟨?_, ⟨b4, HA6.out⟩, HK6.out, HZ6.out⟩
          show _ = Ending.returned (.int .i64 (DD.bad : Int))
          rw [HBd.out]
          rfl
end Go.Proofs.YtjajenkagcdhlaaGreat
