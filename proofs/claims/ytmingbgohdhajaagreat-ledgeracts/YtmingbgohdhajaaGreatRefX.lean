/- The contract of the reference's Write. -/
import Derived.Test.YtmingbgohdhajaaGreatRefW
namespace Go.Proofs.YtmingbgohdhajaaGreat
open Go.RowKit
set_option maxRecDepth 100000
set_option linter.unusedSimpArgs false

/-- How Write stands behind the look at what is blank. -/
structure WCut (w0 w : World) (lp r m1 n1 : Nat) (L : LS) (e : List Ent) (bb : Bool) (L1 : LS) (wx : World) : Prop where
  rl : RL w0 lp r m1 n1 L1 wx
  t : Touch (lmine w0 w) w wx
  n : n1 ≤ L1.laid
  no : bb = true → (L.post e).D.down = true ∧ (L.post e).heed = L1
  yes : bb = false → L.post e = L1.layP e ∧ L1.laid + leavesOf e.length ≤ L1.leaves ∧ L1.ROk ∧ L1.D.turns ≤ 75000 ∧ L1.ws.length = L.ws.length

/-- How Write's leaves are laid. -/
structure WLay (w0 w : World) (lp r m1 n1 : Nat) (L1 : LS) (P : List (List Nat)) (B : Nat) (v : Value) (ps : Nat) (a : Option Addr) (e : List Ent) (t : Nat) (wx : World) : Prop where
  rl : RL w0 lp r m1 n1 { L1 with D := L1.D.run (leafT (2 + ps) (P.take t)) } wx
  tt : Touch (lmine w0 w) w wx
  mt : MineT wx B v P
  up : t = 0 ∨ (L1.D.run (leafT (2 + ps) (P.take t))).down = false
  en : REnts wx a e
  ty : ∀ g, a = some ⟨g, 0, none⟩ → ∃ cs, Blk wx g 116 cs

theorem REnts.lkept {w0 w w' : World} {a : Option Addr} {e : List Ent} (h : REnts w a e) (hb : ∀ g, a = some ⟨g, 0, none⟩ → ∃ cs, Blk w g 116 cs) (T : Touch (lmine w0 w) w w') : REnts w' a e ∧ (∀ g, a = some ⟨g, 0, none⟩ → ∃ cs, Blk w' g 116 cs) :=
  ⟨h.touch T (fun g hg => by obtain ⟨cs, hc⟩ := hb g hg; exact hc.lnot (by decide)), fun g hg => by
    obtain ⟨cs, hc⟩ := hb g hg
    exact ⟨cs, hc.touch T (hc.lnot (by decide))⟩⟩
theorem balanced_turns' (L : LS) : L.balanced.D.turns ≤ L.D.turns + L.ws.length + 4 := balanced_turns L

theorem LS.ROk.next {L : LS} (h : L.ROk) (hr : L.round < 1000000000000) : L.next.ROk := by
  unfold LS.next
  simp only
  split
  · exact ⟨by show (L.D.run L.nextT).T.length = _; rw [DS.run_len]; exact h.len, h.leaves, h.home, by show (L.D.run L.nextT).T.length ≤ _; rw [DS.run_len]; exact h.few, h.laid, h.round, h.posts, h.trk⟩
  · exact ⟨by show (L.D.run L.nextT).T.length = 2 + L.leaves + (List.replicate L.ws.length none).length; rw [DS.run_len, List.length_replicate]; exact h.len, h.leaves, by show 2 ≤ (List.replicate L.ws.length (none : Option (List Nat))).length; rw [List.length_replicate]; exact h.home, by show (L.D.run L.nextT).T.length ≤ _; rw [DS.run_len]; exact h.few, Nat.zero_le _, by show L.round + 1 ≤ _; omega, Nat.zero_le _, none_trk _⟩
theorem LS.ROk.balanced {L : LS} (h : L.ROk) (hr : L.round < 1000000000000) : L.balanced.ROk := by
  unfold LS.balanced
  split
  · exact h.turn .settle
  · exact (h.turn .settle).next hr
theorem next_wslen (L : LS) : L.next.ws.length = L.ws.length := by unfold LS.next; simp only; split; rfl; exact List.length_replicate
theorem balanced_wslen (L : LS) : L.balanced.ws.length = L.ws.length := by unfold LS.balanced; split; rfl; exact next_wslen _
theorem rnext_leaves (L : LS) : L.next.leaves = L.leaves := by unfold LS.next; simp only; split <;> rfl
theorem rbalanced_leaves (L : LS) : L.balanced.leaves = L.leaves := by unfold LS.balanced; split; rfl; exact rnext_leaves _
theorem rnext_laid (L : LS) : L.next.laid = if L.next.D.down then L.laid else 0 := by
  unfold LS.next
  simp only
  split
  · rename_i hd
    simp only [hd, if_true]
  · rename_i hd
    simp only [hd, Bool.false_eq_true, if_false]
theorem rbalanced_laid (L : LS) : L.balanced.laid = if L.balanced.D.down then L.laid else 0 := by
  unfold LS.balanced
  split
  · rename_i hd
    simp only [hd, if_true]
  · exact rnext_laid _

set_option maxHeartbeats 12800000 in
theorem rwrite_any {w0 w : World} {lp r m n : Nat} {L : LS} (h : RL w0 lp r m n L w) (hn : n ≤ L.laid) (ok : L.ROk) (hrd : L.round < 1000000000000) (hpo : L.posts < 1000000) (ht : L.D.turns ≤ 70000) (a : Option Addr) (e : List Ent) (k c : Nat) (hE : REnts w a e) (hb : ∀ g, a = some ⟨g, 0, none⟩ → ∃ cs, Blk w g 116 cs) (hk : e.length = k) (hk2 : k ≤ 100) (het : ∀ x ∈ e, Trk x.2) :
    Calls Tryz.prog 25 #[.pointer (some ⟨lp, 0, none⟩), .slice a k c] w (RDone w0 lp r (L.writeE e) (L.write e) (L.write e).laid w) := by
  have hle := ok.len
  have hfw := ok.few
  have HHm : Hid (∀ w', Old w w' → Calls Tryz.prog 23 #[.pointer (some ⟨lp, 0, none⟩)] w' fun e w'' => e = .returned (.int .i64 (L.ws.length : Int)) ∧ Old w' w'') := fun w' hO => rlhome_any (h.old hO) ok.len
  have H := Lib.hid h
  have HOk := Lib.hid ok
  have HE := Lib.hid hE
  have HB := Lib.hid hb
  have HK := Lib.hid hk
  have HEt := Lib.hid het
  have Hn := Lib.hid hn
  have HTn := Lib.hid ht
  have Hrd := Lib.hid hrd
  have Hpo := Lib.hid hpo
  have HWE : Hid (L.writeE e = if Goes e L.ws.length then (if L.lost then 4 else if L.leaves < leavesOf e.length then 5 else (L.post e).D.bad) else 1) := rfl
  have HWr : Hid (L.write e = if Goes e L.ws.length then (if L.lost then L else if L.leaves < leavesOf e.length then L else (L.post e).heed) else L) := rfl
  have hlv : L.leaves ≤ 1000 := by omega
  have hws : L.ws.length ≤ 1000 := by omega
  have hla : L.laid ≤ L.leaves := ok.laid
  obtain ⟨lf, hlf⟩ : ∃ lf, leavesOf e.length = lf := ⟨_, rfl⟩
  have HLf := Lib.hid hlf
  have hlfb : lf ≤ 200 := by rw [← hlf, hk]; have := leavesOf_le k; omega
  rw [hlf] at HWE HWr
  have HLv := Lib.hid (rleaves_any k w (by omega))
  rw [show leavesOf k = lf by rw [← hk]; exact hlf] at HLv
  generalize L.writeE e = WE at *
  generalize L.write e = LW at *
  clear h ok hE hb hk het hn ht hrd hpo hlf hle hfw
  go_enter Tryz.func25, Tryz.ntmps25
  go_wp2_with fail
  refine HLv.out.mono ?_
  rintro x w' ⟨rfl, rfl⟩
  go_wp2_with fail
  refine (HHm.out w (Touch.refl _ _)).mono ?_
  rintro x w1 ⟨rfl, O1⟩
  have HO1 := Lib.hid O1
  clear O1
  go_wp2_with fail
  refine (rgood_any a e k c L.ws.length w1 (HE.out.old HO1.out) HK.out (by omega) (by omega) (fun x hx => by rw [(HEt.out x hx).len]; omega)).mono ?_
  rintro x w2 ⟨rfl, O2⟩
  have HO2 := Lib.hid (HO1.out.trans O2)
  clear O2 HO1 HLv
  by_cases hgo : Goes e L.ws.length
  · rw [decide_eq_true hgo]
    have HGo := Lib.hid hgo
    have HWE2 : Hid (WE = if L.lost then 4 else if L.leaves < lf then 5 else (L.post e).D.bad) := by show _ = _; rw [HWE.out, if_pos hgo]
    have HWr2 : Hid (LW = if L.lost then L else if L.leaves < lf then L else (L.post e).heed) := by show _ = _; rw [HWr.out, if_pos hgo]
    have H2 := Lib.hid (H.out.old HO2.out)
    have c6 : w2.cell? ⟨lp, 6, none⟩ = some (.bool L.lost) := H2.out.head.cell 6
    have c1 : w2.cell? ⟨lp, 1, none⟩ = some (.int .i64 (L.leaves : Int)) := H2.out.head.cell 1
    clear hgo HWE HWr
    cases hlo : L.lost with
    | true =>
      rw [hlo] at c6
      have HF : Hid (RDone w0 lp r WE LW LW.laid w (.returned (.int .i64 4)) w2) := by
        show RDone _ _ _ _ _ _ _ _ _
        rw [HWE2.out, HWr2.out, hlo]
        exact ⟨rfl, ⟨m, n, H2.out, Hn.out⟩, Touch.of_old HO2.out⟩
      clear hlo HWE2 HWr2
      go_wp2_with fail
      go_ret
      exact HF.out
    | false =>
      rw [hlo] at c6
      have HWE3 : Hid (WE = if L.leaves < lf then 5 else (L.post e).D.bad) := by show _ = _; rw [HWE2.out, hlo]; rfl
      have HWr3 : Hid (LW = if L.leaves < lf then L else (L.post e).heed) := by show _ = _; rw [HWr2.out, hlo]; rfl
      have Hlo := Lib.hid hlo
      clear hlo HWE2 HWr2
      by_cases hbig : L.leaves < lf
      · have HF : Hid (RDone w0 lp r WE LW LW.laid w (.returned (.int .i64 5)) w2) := by
          show RDone _ _ _ _ _ _ _ _ _
          rw [HWE3.out, HWr3.out, if_pos hbig, if_pos hbig]
          exact ⟨rfl, ⟨m, n, H2.out, Hn.out⟩, Touch.of_old HO2.out⟩
        have q1 : (L.leaves : Int) < (lf : Int) := by omega
        clear HWE3 HWr3 hbig
        go_wp2_with fail
        go_ret
        exact HF.out
      · have HWE4 : Hid (WE = (L.post e).D.bad) := by show _ = _; rw [HWE3.out, if_neg hbig]
        have HWr4 : Hid (LW = (L.post e).heed) := by show _ = _; rw [HWr3.out, if_neg hbig]
        have q1 : ¬ (L.leaves : Int) < (lf : Int) := by omega
        have HBl := Lib.hid (rlblank_any H2.out hla (by omega))
        clear HWE3 HWr3
        have HPo : Hid (L.post e = if L.leaves - L.laid < lf then (if L.balanced.D.down then L.balanced else L.balanced.layP e) else L.layP e) := by show _ = _; rw [← HLf.out]; rfl
        go_upto_region 8 with (fail)
        go_cut [37] (fun v wx => ∃ (bb : Bool) (L1 : LS) (m1 n1 : Nat), v = .bool bb ∧ Hid (WCut w0 w lp r m1 n1 L e bb L1 wx))
        case first =>
          go_wp2_with fail
          refine HBl.out.mono ?_
          rintro x w3 ⟨rfl, O3⟩
          have H3 := Lib.hid (H2.out.old O3)
          have HO3 := Lib.hid (HO2.out.trans O3)
          clear O3 H2 HBl HO2 c6 c1
          by_cases hbk : L.leaves - L.laid < lf
          · have q2 : ((L.leaves - L.laid : Nat) : Int) < (lf : Int) := by omega
            have q3 : decide (((L.leaves - L.laid : Nat) : Int) < (lf : Int)) = true := decide_eq_true q2
            have HBa := Lib.hid (rbalance_any H3.out HOk.out (by have := HTn.out; omega) Hlo.out)
            go_wp2_with fail
            refine HBa.out.mono ?_
            rintro x w4 ⟨rfl, ⟨m4, n4, R4, hn4⟩, T4⟩
            cases hdd : L.balanced.D.down with
            | true =>
              rw [bad_down hdd]
              have HC : Hid (WCut w0 w lp r m4 n4 L e true L.balanced.heed w4) := by
                have hp : L.post e = L.balanced := by rw [HPo.out, if_pos hbk, hdd]; rfl
                rw [hdd, if_pos rfl] at hn4
                refine ⟨R4, Touch.ltrans (Touch.of_old HO3.out) T4, ?_, fun _ => ⟨by rw [hp]; exact hdd, by rw [hp]⟩, (fun q => by cases q)⟩
                rw [heed_down' hdd]
                show n4 ≤ L.balanced.laid
                rw [rbalanced_laid, hdd, if_pos rfl]
                have := Hn.out
                omega
              clear R4 hn4 T4 hdd HBa
              go_wp2_with fail
              go_meet
              exact ⟨true, _, _, _, rfl, HC⟩
            | false =>
              rw [bad_up hdd]
              have HC : Hid (WCut w0 w lp r m4 n4 L e false L.balanced w4) := by
                have hp : L.post e = L.balanced.layP e := by rw [HPo.out, if_pos hbk, hdd]; rfl
                rw [hdd] at hn4
                rw [heed_up' hdd] at R4
                have hbt := balanced_turns L
                have := HTn.out
                refine ⟨R4, Touch.ltrans (Touch.of_old HO3.out) T4, by simp only [Bool.false_eq_true, if_false] at hn4; omega, (fun q => by cases q), fun _ => ⟨hp, ?_, HOk.out.balanced Hrd.out, by omega, balanced_wslen L⟩⟩
                rw [rbalanced_laid, hdd, rbalanced_leaves, HLf.out]
                simp only [Bool.false_eq_true, if_false]
                omega
              clear R4 hn4 T4 hdd HBa
              go_wp2_with fail
              go_meet
              exact ⟨false, _, _, _, rfl, HC⟩
          · have q2 : ¬ ((L.leaves - L.laid : Nat) : Int) < (lf : Int) := by omega
            have q3 : decide (((L.leaves - L.laid : Nat) : Int) < (lf : Int)) = false := decide_eq_false q2
            have HC : Hid (WCut w0 w lp r m n L e false L w3) := by
              have hp : L.post e = L.layP e := by rw [HPo.out, if_neg hbk]
              have := HTn.out
              exact ⟨H3.out, Touch.of_old HO3.out, Hn.out, (fun q => by cases q), fun _ => ⟨hp, by rw [HLf.out]; omega, HOk.out, by omega, rfl⟩⟩
            clear hbk
            go_wp2_with fail
            go_meet
            exact ⟨false, _, _, _, rfl, HC⟩
        case rest =>
          obtain ⟨bb, L1, m1, n1, rfl, HC⟩ := hcut
          rename World => w8
          clear HPo H H2 HBl HO2 c6 c1 Hn HTn HOk
          cases bb with
          | true =>
            have HF : Hid (RDone w0 lp r WE LW LW.laid w (.returned (.int .i64 4)) w8) := by
              have hq := HC.out.no rfl
              show RDone _ _ _ _ _ _ _ _ _
              rw [HWE4.out, HWr4.out, bad_down hq.1, hq.2]
              exact ⟨rfl, ⟨m1, n1, HC.out.rl, HC.out.n⟩, HC.out.t⟩
            clear HC
            go_wp2_with fail
            go_ret
            exact HF.out
          | false =>
            obtain ⟨hp, hroom, ok1, ht1, hwl⟩ := HC.out.yes rfl
            rw [hp] at HWE4 HWr4
            have HR1 := Lib.hid HC.out.rl
            have HT1 := Lib.hid HC.out.t
            have Hn1 := Lib.hid HC.out.n
            have HL1 := Lib.hid ok1.len
            have hrd1 : L1.round ≤ 1000000000000 := ok1.round
            have hpo1 : L1.posts ≤ 1000000 := ok1.posts
            have hlen1 := ok1.len
            have hfew1 := ok1.few
            have hE1 := HE.out.lkept HB.out HC.out.t
            have HE1 := Lib.hid hE1
            rw [HLf.out] at hroom
            have HGo1 : Hid (∀ x ∈ e, x.1 < L1.ws.length ∧ x.2.length = 96) := fun x hx => by rw [hwl]; exact HGo.out.1 x hx
            have h0e : 0 < e.length := HGo.out.2.2
            have hlf2 : 2 ≤ lf := by rw [← HLf.out]; exact leavesOf_two h0e
            have hklf : k ≤ lf := by rw [← HLf.out, ← HK.out]; unfold leavesOf; split <;> omega
            have HLay : Hid (L1.layP e = if (L1.D.run (leafT (2 + L1.laid) (posting L1.round (L1.posts + 1) e))).down then { L1 with D := L1.D.run (leafT (2 + L1.laid) (posting L1.round (L1.posts + 1) e)) } else { L1 with D := L1.D.run (leafT (2 + L1.laid) (posting L1.round (L1.posts + 1) e)), posts := L1.posts + 1, laid := L1.laid + leavesOf e.length, ws := took L1.ws e }) := rfl
            have HPl : Hid ((posting L1.round (L1.posts + 1) e).length = lf) := by show _ = _; rw [posting_length]; exact HLf.out
            have HPt : Hid (∀ x ∈ posting L1.round (L1.posts + 1) e, Trk x) := fun x hx => by
              obtain ⟨i, hi, rfl⟩ := List.mem_map.1 hx
              exact ⟨track_byte (rleafText_byte (fun y hy => rptext_bytes (fun x hx => (HEt.out x hx).byte) y (List.mem_of_mem_drop (List.mem_of_mem_take hy)))), leaf_length (fun x hx => (HEt.out x hx).len) h0e (List.mem_range.1 hi)⟩
            have HHd1 : Hid (∀ D', rlhead r m1 { L1 with D := D' } = rlhead r m1 L1) := fun _ => rfl
            have HPs := rposting_any L1.round (L1.posts + 1) a e k c w8.drew (hE1.1.old ((Touch.refl _ _).drew)) HK.out (by omega) (fun x hx => ⟨(HEt.out x hx).len, by have := (HGo.out.1 x hx).1; omega, (HEt.out x hx).byte⟩) (by omega) (by omega)
            rw [show ((L1.posts + 1 : Nat) : Int) = (L1.posts : Int) + 1 by omega] at HPs
            have HPs' := Lib.hid HPs
            have d2 : w8.drew.cell? ⟨lp, 2, none⟩ = some (.int .i64 (L1.round : Int)) := HC.out.rl.head.cell 2
            have d3 : w8.drew.cell? ⟨lp, 3, none⟩ = some (.int .i64 (L1.posts : Int)) := HC.out.rl.head.cell 3
            have HTu : Hid (L1.D.turns ≤ 75000) := ht1
            have HRh : Hid (rlhead r m1 L1 = [.pointer (some ⟨r, 0, none⟩), .int .i64 (L1.leaves : Int), .int .i64 (L1.round : Int), .int .i64 (L1.posts : Int), .int .i64 (L1.laid : Int), .map (some m1), .bool L1.lost]) := rfl
            clear HPs hp ok1 hwl ht1 HC hE1 HHm HE HB
            obtain ⟨lv, hlv1⟩ : ∃ lv, L1.leaves = lv := ⟨_, rfl⟩
            obtain ⟨rd, hrde⟩ : ∃ rd, L1.round = rd := ⟨_, rfl⟩
            obtain ⟨po, hpoe⟩ : ∃ po, L1.posts = po := ⟨_, rfl⟩
            obtain ⟨ps, hpse⟩ : ∃ ps, L1.laid = ps := ⟨_, rfl⟩
            have HLv1 := Lib.hid hlv1
            have HRd1 := Lib.hid hrde
            have HPo1 := Lib.hid hpoe
            have HPs1 := Lib.hid hpse
            rw [hrde] at hrd1 d2
            rw [hpoe] at hpo1 d3
            rw [hpse, hlv1] at hroom
            rw [hlv1] at hlen1
            rw [hrde, hpoe] at HPs'
            rw [hlv1, hrde, hpoe, hpse] at HRh
            rw [hrde, hpoe] at HPl HPt
            rw [hrde, hpoe, hpse, HLf.out] at HLay
            clear hlv1 hrde hpoe hpse
            obtain ⟨P, hP⟩ : ∃ P, posting rd (po + 1) e = P := ⟨_, rfl⟩
            rw [hP] at HPl HPt HLay HPs'
            clear hP
            have hwr0 : IntKind.i64.wrap ((po : Int) + 1) = (po : Int) + 1 := wrap_fits ⟨by omega, by omega⟩
            go_wp2_with fail
            go_cut [6] (fun v wx => Hid (MineT wx w8.drew.heap.size v P ∧ Old w8 wx))
            case first =>
              go_region_held3 (fun w' => w'.cell? ⟨lp, 2, none⟩ = some (.int .i64 (rd : Int)) ∧ w'.cell? ⟨lp, 3, none⟩ = some (.int .i64 (po : Int))) (first | exact ⟨d2, d3⟩ | exact ⟨f2, f3⟩)
                (first | (go_at_call 67; refine HPs'.out.mono ?_; rintro x w5 ⟨v5, rfl, M5, O5⟩; have f2 : w5.cell? ⟨lp, 2, none⟩ = some (.int .i64 (rd : Int)) := (O5.cell (p := ⟨lp, 2, none⟩) (lt_of_cell? d2) (fun q => q)).trans d2; have f3 : w5.cell? ⟨lp, 3, none⟩ = some (.int .i64 (po : Int)) := (O5.cell (p := ⟨lp, 3, none⟩) (lt_of_cell? d3) (fun q => q)).trans d3; have HM5 := Lib.hid (And.intro M5 (((Touch.refl _ w8).drew).trans O5)); clear M5 O5))
              all_goals
                rename_i hHeld
                clear hHeld
                go_wp2_with fail
                go_meet
                exact HM5
            case rest =>
              have HM := hcut
              clear hcut HPs' d2 d3 hwr0
              obtain ⟨ap, cp, hvp⟩ := HM.out.1.form
              rw [HPl.out] at hvp
              subst hvp
              have HY0 : Hid (WLay w0 w lp r m1 n1 L1 P w8.drew.heap.size (.slice ap lf cp) ps a e 0 wc) := by
                have o := HM.out.2
                exact ⟨HR1.out.old o, Touch.ltrans HT1.out (Touch.of_old o), HM.out.1, .inl rfl, HE1.out.1.old o, fun g hg => by obtain ⟨cs, hc⟩ := HE1.out.2 g hg; exact ⟨cs, hc.touch o (fun q => q)⟩⟩
              clear HR1 HT1 HM HE1
              go_wp2_with fail
              go_loopw [7] (fun j wx => ∃ i : Nat, i ≤ lf ∧ j = .int .i64 i ∧ Hid (WLay w0 w lp r m1 n1 L1 P w8.drew.heap.size (.slice ap lf cp) ps a e i wx)) (fun j _ => lf - (intOf j).toNat)
              case atStart => exact ⟨0, Nat.zero_le _, rfl, HY0⟩
              case round =>
                obtain ⟨i, hi, rfl, HY⟩ := hrel
                clear HY0
                have hti := DS.run_turns L1.D (leafT (2 + ps) (P.take i))
                have hlik := DS.run_len L1.D (leafT (2 + ps) (P.take i))
                rw [leafT_length, List.length_take, HPl.out] at hti
                by_cases hlt : i < lf
                · as_aux_lemma =>
                    obtain ⟨lfb, hlfb2⟩ := get_of_lt (l := P) (n := i) (by rw [HPl.out]; exact hlt)
                    have HTr := Lib.hid (HPt.out lfb (mem_of_get hlfb2))
                    obtain ⟨gp, hap, _⟩ := HY.out.mt.at HPl.out hlfb2
                    subst hap
                    have HR : Hid (L1.D.run (leafT (2 + ps) (P.take (i + 1))) = (L1.D.run (leafT (2 + ps) (P.take i))).step (.lay (2 + ps + i) lfb)) := by show _ = _; rw [leafT_next hlfb2, DS.run_snoc]
                    have HPp : Hid (∃ q, L1.D.run (leafT (2 + ps) P) = (L1.D.run (leafT (2 + ps) (P.take (i + 1)))).run q) := by
                      obtain ⟨q, hq⟩ := leafT_part (2 + ps) (i + 1) P
                      exact ⟨q, by rw [← DS.run_append, ← hq]⟩
                    have HMt0 : Hid (∀ wt, RT w0 wr.drew wt → MineT wt w8.drew.heap.size (.slice (some ⟨gp, 0, none⟩) lf cp) P) := fun wt hO => by
                      have M1 := HY.out.mt.old ((Touch.refl (fun _ => False) wr).drew)
                      refine M1.touch hO (fun q hq hm => ?_)
                      obtain ⟨cs, hB⟩ := M1.typed q hq
                      obtain ⟨_, t', cs', ht', hB'⟩ := hm
                      exact hB.ne hB' (by rcases ht' with rfl | rfl <;> decide) rfl
                    have HMt1 : Hid (∀ wt, RT w0 wr.drew wt → wt.cell? ⟨gp, i, none⟩ = some (.string (strOf lfb))) := fun wt hO => by
                      obtain ⟨g', e', hc'⟩ := (HMt0.out wt hO).at HPl.out hlfb2
                      cases e'
                      exact hc'
                    have HD0 : Hid (Blk wr.drew lp 55 [.pointer (some ⟨r, 0, none⟩), .int .i64 (lv : Int), .int .i64 (rd : Int), .int .i64 (po : Int), .int .i64 (ps : Int), .map (some m1), .bool L1.lost]) := by
                      have := HY.out.rl.head
                      rw [HHd1.out, HRh.out] at this
                      exact this.touch ((Touch.refl (fun _ => False) wr).drew) (fun q => q)
                    obtain ⟨cb, wb, hcv, hcb, hLo, hOb⟩ := bytes_of wr.drew lfb HTr.out.byte
                    rw [HTr.out.len] at hcv hcb
                    have HTb : Hid (RT w0 wr.drew wb) := Touch.of_old hOb
                    have Ob : Old wr wb := ((Touch.refl _ _).drew).trans hOb
                    have HYb := Lib.hid (HY.out.rl.old Ob)
                    have HLy := Lib.hid (rlay_step HYb.out.rs HYb.out.ok (by have := HTu.out; show (L1.D.run (leafT (2 + ps) (P.take i))).turns ≤ _; omega) HYb.out.n0 (2 + ps + i) wr.drew.heap.size lfb cb (by show _ < (L1.D.run (leafT (2 + ps) (P.take i))).T.length; rw [hlik]; omega) HTr.out hLo)
                    have hwr1 : IntKind.i64.wrap (2 + (ps : Int)) = 2 + (ps : Int) := wrap_fits ⟨by omega, by omega⟩
                    have hwr2 : IntKind.i64.wrap (2 + (ps : Int) + (i : Int)) = 2 + (ps : Int) + (i : Int) := wrap_fits ⟨by omega, by omega⟩
                    have i0 : (0 : Int) ≤ (i : Int) := by omega
                    have i1 : (i : Int) < (lf : Int) := by omega
                    rw [show ({ L1 with D := L1.D.run (leafT (2 + ps) (P.take i)) } : LS).D = L1.D.run (leafT (2 + ps) (P.take i)) from rfl, ← HR.out] at HLy
                    have HNx : Hid (∀ w2, RN w0 r (L1.D.run (leafT (2 + ps) (P.take (i + 1)))) wb w2 → RL w0 lp r m1 n1 { L1 with D := L1.D.run (leafT (2 + ps) (P.take (i + 1))) } w2 ∧ Touch (lmine w0 w) w w2 ∧ MineT w2 w8.drew.heap.size (.slice (some ⟨gp, 0, none⟩) lf cp) P ∧ REnts w2 a e ∧ (∀ g, a = some ⟨g, 0, none⟩ → ∃ cs, Blk w2 g 116 cs)) := fun w2 N2 => by
                      have k1 := (HY.out.en.old Ob).lkept (w0 := w0) (fun g hg => by obtain ⟨cs, hc⟩ := HY.out.ty g hg; exact ⟨cs, hc.touch Ob (fun q => q)⟩) (Touch.of_rmine N2.2)
                      refine ⟨HYb.out.turn N2, Touch.ltrans (Touch.ltrans HY.out.tt (Touch.of_old Ob)) (Touch.of_rmine N2.2), HMt0.out w2 ((RT.pre w0).trans HTb.out N2.2), k1.1, k1.2⟩
                    clear hti hlik hLo hOb
                    generalize hsb : strOf lfb = sb at *
                    have HMt := HMt1
                    clear hsb hlfb2 HR HMt1 HMt0
                    obtain ⟨D1, hD1⟩ : ∃ D1, L1.D.run (leafT (2 + ps) (P.take (i + 1))) = D1 := ⟨_, rfl⟩
                    have HD1 := Lib.hid hD1
                    rw [hD1] at HPp HLy HNx
                    clear hD1
                    cases hd : D1.down with
                    | true =>
                      rw [bad_down hd] at HLy
                      have HDn := Lib.hid hd
                      have HE4 : Hid (WE = 4 ∧ LW = { L1 with D := D1, lost := true }) := by
                        obtain ⟨q, hq⟩ := HPp.out
                        have e1 : L1.layP e = { L1 with D := D1 } := by rw [HLay.out, hq, DS.run_down hd, hd, ← HRd1.out, ← HPo1.out, ← HPs1.out]; rfl
                        rw [HWE4.out, HWr4.out, e1]
                        exact ⟨bad_down hd, heed_down' hd⟩
                      clear hd HPp
                      go_wp2_with fail
                      refine wp_region_G (R := RT w0) (by kernel_rfl) ?_
                      refine wpG_take (RT.pre w0) (i := 0) (oi := ⟨some 54, _, _, _, _, _⟩) (v := ?xav0) rfl (by kernel_rfl) (by kernel_rfl) (by kernel_rfl) (fun _ _ _ h => h) (by kernel_rfl) ?xay0 ?xar0
                      case xay0 =>
                        intro wt hO
                        go_simp
                        try with_reducible rfl
                      try simp only [Act.put, List.setIfInBounds_toArray, List.set_cons_zero, List.set_cons_succ]
                      refine wpG_take (RT.pre w0) (i := 1) (oi := ⟨some 55, _, _, _, _, _⟩) (v := ?xav1) rfl (by kernel_rfl) (by kernel_rfl) (by kernel_rfl) (fun _ _ _ h => h) (by kernel_rfl) ?xay1 ?xar1
                      case xay1 =>
                        intro wt hO
                        go_simp
                        try with_reducible rfl
                      try simp only [Act.put, List.setIfInBounds_toArray, List.set_cons_zero, List.set_cons_succ]
                      refine wpG_take (RT.pre w0) (i := 2) (oi := ⟨some 56, _, _, _, _, _⟩) (v := ?xav2) rfl (by kernel_rfl) (by kernel_rfl) (by kernel_rfl) (fun _ _ _ h => h) (by kernel_rfl) ?xay2 ?xar2
                      case xay2 =>
                        intro wt hO
                        go_simp
                        try with_reducible rfl
                      try simp only [Act.put, List.setIfInBounds_toArray, List.set_cons_zero, List.set_cons_succ]
                      refine wpG_take (RT.pre w0) (i := 3) (oi := ⟨some 57, _, _, _, _, _⟩) (v := ?xav3) rfl (by kernel_rfl) (by kernel_rfl) (by kernel_rfl) (fun _ _ _ h => h) (by kernel_rfl) ?xay3 ?xar3
                      case xay3 =>
                        intro wt hO
                        have f0 : wt.cell? ⟨lp, 0, none⟩ = some (.pointer (some ⟨r, 0, none⟩)) := (HD0.out.rstay hO (by decide)).cell 0; go_simp
                        try with_reducible rfl
                      try simp only [Act.put, List.setIfInBounds_toArray, List.set_cons_zero, List.set_cons_succ]
                      refine wpG_take (RT.pre w0) (i := 4) (oi := ⟨some 58, _, _, _, _, _⟩) (v := ?xav4) rfl (by kernel_rfl) (by kernel_rfl) (by kernel_rfl) (fun _ _ _ h => h) (by kernel_rfl) ?xay4 ?xar4
                      case xay4 =>
                        intro wt hO
                        go_simp
                        try with_reducible rfl
                      try simp only [Act.put, List.setIfInBounds_toArray, List.set_cons_zero, List.set_cons_succ]
                      refine wpG_take (RT.pre w0) (i := 5) (oi := ⟨some 59, _, _, _, _, _⟩) (v := ?xav5) rfl (by kernel_rfl) (by kernel_rfl) (by kernel_rfl) (fun _ _ _ h => h) (by kernel_rfl) ?xay5 ?xar5
                      case xay5 =>
                        intro wt hO
                        go_simp
                        try with_reducible rfl
                      try simp only [Act.put, List.setIfInBounds_toArray, List.set_cons_zero, List.set_cons_succ]
                      refine wpG_take (RT.pre w0) (i := 6) (oi := ⟨some 60, _, _, _, _, _⟩) (v := ?xav6) rfl (by kernel_rfl) (by kernel_rfl) (by kernel_rfl) (fun _ _ _ h => h) (by kernel_rfl) ?xay6 ?xar6
                      case xay6 =>
                        intro wt hO
                        go_simp
                        try with_reducible rfl
                      try simp only [Act.put, List.setIfInBounds_toArray, List.set_cons_zero, List.set_cons_succ]
                      refine wpG_take (RT.pre w0) (i := 7) (oi := ⟨some 61, _, _, _, _, _⟩) (v := ?xav7) rfl (by kernel_rfl) (by kernel_rfl) (by kernel_rfl) (fun _ _ _ h => h) (by kernel_rfl) ?xay7 ?xar7
                      case xay7 =>
                        intro wt hO
                        have f0 : wt.cell? ⟨lp, 4, none⟩ = some (.int .i64 (ps : Int)) := (HD0.out.rstay hO (by decide)).cell 4; go_simp
                        try with_reducible rfl
                      try simp only [Act.put, List.setIfInBounds_toArray, List.set_cons_zero, List.set_cons_succ]
                      refine wpG_take (RT.pre w0) (i := 8) (oi := ⟨some 62, _, _, _, _, _⟩) (v := ?xav8) rfl (by kernel_rfl) (by kernel_rfl) (by kernel_rfl) (fun _ _ _ h => h) (by kernel_rfl) ?xay8 ?xar8
                      case xay8 =>
                        intro wt hO
                        go_simp
                        try with_reducible rfl
                      try simp only [Act.put, List.setIfInBounds_toArray, List.set_cons_zero, List.set_cons_succ]
                      refine wpG_take (RT.pre w0) (i := 9) (oi := ⟨some 63, _, _, _, _, _⟩) (v := ?xav9) rfl (by kernel_rfl) (by kernel_rfl) (by kernel_rfl) (fun _ _ _ h => h) (by kernel_rfl) ?xay9 ?xar9
                      case xay9 =>
                        intro wt hO
                        go_simp
                        try with_reducible rfl
                      try simp only [Act.put, List.setIfInBounds_toArray, List.set_cons_zero, List.set_cons_succ]
                      refine wpG_take (RT.pre w0) (i := 10) (oi := ⟨some 64, _, _, _, _, _⟩) (v := ?xav10) rfl (by kernel_rfl) (by kernel_rfl) (by kernel_rfl) (fun _ _ _ h => h) (by kernel_rfl) ?xay10 ?xar10
                      case xay10 =>
                        intro wt hO
                        go_simp
                        try with_reducible rfl
                      try simp only [Act.put, List.setIfInBounds_toArray, List.set_cons_zero, List.set_cons_succ]
                      refine wpG_take (RT.pre w0) (i := 11) (oi := ⟨some 65, _, _, _, _, _⟩) (v := ?xav11) rfl (by kernel_rfl) (by kernel_rfl) (by kernel_rfl) (fun _ _ _ h => h) (by kernel_rfl) ?xay11 ?xar11
                      case xay11 =>
                        intro wt hO
                        go_simp
                        try with_reducible rfl
                      try simp only [Act.put, List.setIfInBounds_toArray, List.set_cons_zero, List.set_cons_succ]
                      refine wpG_take (RT.pre w0) (i := 12) (oi := ⟨some 66, _, _, _, _, _⟩) (v := ?xav12) rfl (by kernel_rfl) (by kernel_rfl) (by kernel_rfl) (fun _ _ _ h => h) (by kernel_rfl) ?xay12 ?xar12
                      case xay12 =>
                        intro wt hO
                        go_simp
                        try with_reducible rfl
                      try simp only [Act.put, List.setIfInBounds_toArray, List.set_cons_zero, List.set_cons_succ]
                      refine wpG_take (RT.pre w0) (i := 13) (oi := ⟨some 67, _, _, _, _, _⟩) (v := ?xav13) rfl (by kernel_rfl) (by kernel_rfl) (by kernel_rfl) (fun _ _ _ h => h) (by kernel_rfl) ?xay13 ?xar13
                      case xay13 =>
                        intro wt hO
                        go_simp
                        try with_reducible rfl
                      try simp only [Act.put, List.setIfInBounds_toArray, List.set_cons_zero, List.set_cons_succ]
                      refine wpG_take (RT.pre w0) (i := 14) (oi := ⟨some 68, _, _, _, _, _⟩) (v := ?xav14) rfl (by kernel_rfl) (by kernel_rfl) (by kernel_rfl) (fun _ _ _ h => h) (by kernel_rfl) ?xay14 ?xar14
                      case xay14 =>
                        intro wt hO
                        have f0 : wt.cell? ⟨gp, i, none⟩ = some (.string sb) := (HMt.out wt hO); go_simp
                        try with_reducible rfl
                      try simp only [Act.put, List.setIfInBounds_toArray, List.set_cons_zero, List.set_cons_succ]
                      refine wpG_call (RT.pre w0) (i := 15) (o := ⟨some 69, _, _, _, _, _⟩) rfl (by kernel_rfl) (by kernel_rfl) (fun K hK => ?_)
                      go_simp
                      refine hK.out _ _ HTb.out ?_
                      clear hK
                      try simp only [Act.put, List.setIfInBounds_toArray, List.set_cons_zero, List.set_cons_succ]
                      refine wpG_call (RT.pre w0) (i := 16) (o := ⟨some 70, _, _, _, _, _⟩) rfl (by kernel_rfl) (by kernel_rfl) (fun K hK => ?_)
                      go_simp
                      rw [show (2 : Int) + (ps : Int) + (i : Int) = ((2 + ps + i : Nat) : Int) by omega]
                      refine HLy.out.mono ?_
                      rintro ye w2 ⟨rfl, N2⟩
                      have HN2 := Lib.hid N2
                      refine hK.out _ _ N2.2 ?_
                      clear hK N2
                      try simp only [Act.put, List.setIfInBounds_toArray, List.set_cons_zero, List.set_cons_succ]
                      refine wpG_take (RT.pre w0) (i := 17) (oi := ⟨some 71, _, _, _, _, _⟩) (v := ?xav17) rfl (by kernel_rfl) (by kernel_rfl) (by kernel_rfl) (fun _ _ _ h => h) (by kernel_rfl) ?xay17 ?xar17
                      case xay17 =>
                        intro wt hO
                        go_simp
                        try with_reducible rfl
                      try simp only [Act.put, List.setIfInBounds_toArray, List.set_cons_zero, List.set_cons_succ]
                      refine wpG_done (by kernel_rfl) ?_ _
                      have hA := HNx.out w2 HN2.out
                      have HRl2 := Lib.hid hA.1
                      have HT2 := Lib.hid hA.2.1
                      clear hA HNx
                      go_wp2_with fail
                      refine (ends_no HRl2.out).mono ?_
                      rintro x w3 ⟨rfl, R3, T3⟩
                      have HF : Hid (RDone w0 lp r WE LW LW.laid w (.returned (.int .i64 4)) w3) := by
                        show RDone _ _ _ _ _ _ _ _ _
                        rw [HE4.out.1, HE4.out.2]
                        exact ⟨rfl, ⟨m1, n1, R3, Hn1.out⟩, HT2.out.ltrans (T3.mono (fun q _ hq => by rw [hq]; exact HRl2.out.lhead))⟩
                      clear R3 T3
                      go_wp2_with fail
                      go_ret
                      exact HF.out
                    | false =>
                      rw [bad_up hd] at HLy
                      have HDn := Lib.hid hd
                      clear hd HPp
                      go_wp2_with fail
                      refine wp_region_G (R := RT w0) (by kernel_rfl) ?_
                      refine wpG_take (RT.pre w0) (i := 0) (oi := ⟨some 54, _, _, _, _, _⟩) (v := ?xbv0) rfl (by kernel_rfl) (by kernel_rfl) (by kernel_rfl) (fun _ _ _ h => h) (by kernel_rfl) ?xby0 ?xbr0
                      case xby0 =>
                        intro wt hO
                        go_simp
                        try with_reducible rfl
                      try simp only [Act.put, List.setIfInBounds_toArray, List.set_cons_zero, List.set_cons_succ]
                      refine wpG_take (RT.pre w0) (i := 1) (oi := ⟨some 55, _, _, _, _, _⟩) (v := ?xbv1) rfl (by kernel_rfl) (by kernel_rfl) (by kernel_rfl) (fun _ _ _ h => h) (by kernel_rfl) ?xby1 ?xbr1
                      case xby1 =>
                        intro wt hO
                        go_simp
                        try with_reducible rfl
                      try simp only [Act.put, List.setIfInBounds_toArray, List.set_cons_zero, List.set_cons_succ]
                      refine wpG_take (RT.pre w0) (i := 2) (oi := ⟨some 56, _, _, _, _, _⟩) (v := ?xbv2) rfl (by kernel_rfl) (by kernel_rfl) (by kernel_rfl) (fun _ _ _ h => h) (by kernel_rfl) ?xby2 ?xbr2
                      case xby2 =>
                        intro wt hO
                        go_simp
                        try with_reducible rfl
                      try simp only [Act.put, List.setIfInBounds_toArray, List.set_cons_zero, List.set_cons_succ]
                      refine wpG_take (RT.pre w0) (i := 3) (oi := ⟨some 57, _, _, _, _, _⟩) (v := ?xbv3) rfl (by kernel_rfl) (by kernel_rfl) (by kernel_rfl) (fun _ _ _ h => h) (by kernel_rfl) ?xby3 ?xbr3
                      case xby3 =>
                        intro wt hO
                        have f0 : wt.cell? ⟨lp, 0, none⟩ = some (.pointer (some ⟨r, 0, none⟩)) := (HD0.out.rstay hO (by decide)).cell 0; go_simp
                        try with_reducible rfl
                      try simp only [Act.put, List.setIfInBounds_toArray, List.set_cons_zero, List.set_cons_succ]
                      refine wpG_take (RT.pre w0) (i := 4) (oi := ⟨some 58, _, _, _, _, _⟩) (v := ?xbv4) rfl (by kernel_rfl) (by kernel_rfl) (by kernel_rfl) (fun _ _ _ h => h) (by kernel_rfl) ?xby4 ?xbr4
                      case xby4 =>
                        intro wt hO
                        go_simp
                        try with_reducible rfl
                      try simp only [Act.put, List.setIfInBounds_toArray, List.set_cons_zero, List.set_cons_succ]
                      refine wpG_take (RT.pre w0) (i := 5) (oi := ⟨some 59, _, _, _, _, _⟩) (v := ?xbv5) rfl (by kernel_rfl) (by kernel_rfl) (by kernel_rfl) (fun _ _ _ h => h) (by kernel_rfl) ?xby5 ?xbr5
                      case xby5 =>
                        intro wt hO
                        go_simp
                        try with_reducible rfl
                      try simp only [Act.put, List.setIfInBounds_toArray, List.set_cons_zero, List.set_cons_succ]
                      refine wpG_take (RT.pre w0) (i := 6) (oi := ⟨some 60, _, _, _, _, _⟩) (v := ?xbv6) rfl (by kernel_rfl) (by kernel_rfl) (by kernel_rfl) (fun _ _ _ h => h) (by kernel_rfl) ?xby6 ?xbr6
                      case xby6 =>
                        intro wt hO
                        go_simp
                        try with_reducible rfl
                      try simp only [Act.put, List.setIfInBounds_toArray, List.set_cons_zero, List.set_cons_succ]
                      refine wpG_take (RT.pre w0) (i := 7) (oi := ⟨some 61, _, _, _, _, _⟩) (v := ?xbv7) rfl (by kernel_rfl) (by kernel_rfl) (by kernel_rfl) (fun _ _ _ h => h) (by kernel_rfl) ?xby7 ?xbr7
                      case xby7 =>
                        intro wt hO
                        have f0 : wt.cell? ⟨lp, 4, none⟩ = some (.int .i64 (ps : Int)) := (HD0.out.rstay hO (by decide)).cell 4; go_simp
                        try with_reducible rfl
                      try simp only [Act.put, List.setIfInBounds_toArray, List.set_cons_zero, List.set_cons_succ]
                      refine wpG_take (RT.pre w0) (i := 8) (oi := ⟨some 62, _, _, _, _, _⟩) (v := ?xbv8) rfl (by kernel_rfl) (by kernel_rfl) (by kernel_rfl) (fun _ _ _ h => h) (by kernel_rfl) ?xby8 ?xbr8
                      case xby8 =>
                        intro wt hO
                        go_simp
                        try with_reducible rfl
                      try simp only [Act.put, List.setIfInBounds_toArray, List.set_cons_zero, List.set_cons_succ]
                      refine wpG_take (RT.pre w0) (i := 9) (oi := ⟨some 63, _, _, _, _, _⟩) (v := ?xbv9) rfl (by kernel_rfl) (by kernel_rfl) (by kernel_rfl) (fun _ _ _ h => h) (by kernel_rfl) ?xby9 ?xbr9
                      case xby9 =>
                        intro wt hO
                        go_simp
                        try with_reducible rfl
                      try simp only [Act.put, List.setIfInBounds_toArray, List.set_cons_zero, List.set_cons_succ]
                      refine wpG_take (RT.pre w0) (i := 10) (oi := ⟨some 64, _, _, _, _, _⟩) (v := ?xbv10) rfl (by kernel_rfl) (by kernel_rfl) (by kernel_rfl) (fun _ _ _ h => h) (by kernel_rfl) ?xby10 ?xbr10
                      case xby10 =>
                        intro wt hO
                        go_simp
                        try with_reducible rfl
                      try simp only [Act.put, List.setIfInBounds_toArray, List.set_cons_zero, List.set_cons_succ]
                      refine wpG_take (RT.pre w0) (i := 11) (oi := ⟨some 65, _, _, _, _, _⟩) (v := ?xbv11) rfl (by kernel_rfl) (by kernel_rfl) (by kernel_rfl) (fun _ _ _ h => h) (by kernel_rfl) ?xby11 ?xbr11
                      case xby11 =>
                        intro wt hO
                        go_simp
                        try with_reducible rfl
                      try simp only [Act.put, List.setIfInBounds_toArray, List.set_cons_zero, List.set_cons_succ]
                      refine wpG_take (RT.pre w0) (i := 12) (oi := ⟨some 66, _, _, _, _, _⟩) (v := ?xbv12) rfl (by kernel_rfl) (by kernel_rfl) (by kernel_rfl) (fun _ _ _ h => h) (by kernel_rfl) ?xby12 ?xbr12
                      case xby12 =>
                        intro wt hO
                        go_simp
                        try with_reducible rfl
                      try simp only [Act.put, List.setIfInBounds_toArray, List.set_cons_zero, List.set_cons_succ]
                      refine wpG_take (RT.pre w0) (i := 13) (oi := ⟨some 67, _, _, _, _, _⟩) (v := ?xbv13) rfl (by kernel_rfl) (by kernel_rfl) (by kernel_rfl) (fun _ _ _ h => h) (by kernel_rfl) ?xby13 ?xbr13
                      case xby13 =>
                        intro wt hO
                        go_simp
                        try with_reducible rfl
                      try simp only [Act.put, List.setIfInBounds_toArray, List.set_cons_zero, List.set_cons_succ]
                      refine wpG_take (RT.pre w0) (i := 14) (oi := ⟨some 68, _, _, _, _, _⟩) (v := ?xbv14) rfl (by kernel_rfl) (by kernel_rfl) (by kernel_rfl) (fun _ _ _ h => h) (by kernel_rfl) ?xby14 ?xbr14
                      case xby14 =>
                        intro wt hO
                        have f0 : wt.cell? ⟨gp, i, none⟩ = some (.string sb) := (HMt.out wt hO); go_simp
                        try with_reducible rfl
                      try simp only [Act.put, List.setIfInBounds_toArray, List.set_cons_zero, List.set_cons_succ]
                      refine wpG_call (RT.pre w0) (i := 15) (o := ⟨some 69, _, _, _, _, _⟩) rfl (by kernel_rfl) (by kernel_rfl) (fun K hK => ?_)
                      go_simp
                      refine hK.out _ _ HTb.out ?_
                      clear hK
                      try simp only [Act.put, List.setIfInBounds_toArray, List.set_cons_zero, List.set_cons_succ]
                      refine wpG_call (RT.pre w0) (i := 16) (o := ⟨some 70, _, _, _, _, _⟩) rfl (by kernel_rfl) (by kernel_rfl) (fun K hK => ?_)
                      go_simp
                      rw [show (2 : Int) + (ps : Int) + (i : Int) = ((2 + ps + i : Nat) : Int) by omega]
                      refine HLy.out.mono ?_
                      rintro ye w2 ⟨rfl, N2⟩
                      have HN2 := Lib.hid N2
                      refine hK.out _ _ N2.2 ?_
                      clear hK N2
                      try simp only [Act.put, List.setIfInBounds_toArray, List.set_cons_zero, List.set_cons_succ]
                      refine wpG_take (RT.pre w0) (i := 17) (oi := ⟨some 71, _, _, _, _, _⟩) (v := ?xbv17) rfl (by kernel_rfl) (by kernel_rfl) (by kernel_rfl) (fun _ _ _ h => h) (by kernel_rfl) ?xby17 ?xbr17
                      case xby17 =>
                        intro wt hO
                        go_simp
                        try with_reducible rfl
                      try simp only [Act.put, List.setIfInBounds_toArray, List.set_cons_zero, List.set_cons_succ]
                      refine wpG_done (by kernel_rfl) ?_ _
                      have HN : Hid (WLay w0 w lp r m1 n1 L1 P w8.drew.heap.size (.slice (some ⟨gp, 0, none⟩) lf cp) ps a e (i + 1) w2) := by
                        have hA := HNx.out w2 HN2.out
                        refine ⟨by rw [HD1.out]; exact hA.1, hA.2.1, hA.2.2.1, .inr (by rw [HD1.out]; exact HDn.out), hA.2.2.2.1, hA.2.2.2.2⟩
                      go_wp2_with fail
                      exact ⟨⟨i + 1, by omega, by go_num, HN⟩, by simp [intOf]; omega⟩
                · as_aux_lemma =>
                    obtain rfl : i = lf := by omega
                    have i1 : ¬ (i : Int) < (i : Int) := by omega
                    have hup : (L1.D.run (leafT (2 + ps) P)).down = false := by
                      rcases HY.out.up with q | q
                      · omega
                      · rwa [List.take_of_length_le (by rw [HPl.out]; exact Nat.le_refl _)] at q
                    have hY := HY.out
                    have hrl : RL w0 lp r m1 n1 { L1 with D := L1.D.run (leafT (2 + ps) P) } wr := by have := hY.rl; rwa [List.take_of_length_le (by rw [HPl.out]; exact Nat.le_refl _)] at this
                    have HE4 : Hid (WE = 0 ∧ LW = { L1 with D := L1.D.run (leafT (2 + ps) P), posts := po + 1, laid := ps + i, ws := took L1.ws e }) := by
                      have e1 : L1.layP e = { L1 with D := L1.D.run (leafT (2 + ps) P), posts := po + 1, laid := ps + i, ws := took L1.ws e } := by rw [HLay.out, hup, ← HRd1.out, ← HPo1.out, ← HPs1.out]; rfl
                      rw [HWE4.out, HWr4.out, e1]
                      exact ⟨bad_up hup, heed_up' hup⟩
                    generalize L1.D.run (leafT (2 + ps) P) = D9 at *
                    have c4 : wr.cell? ⟨lp, 4, none⟩ = some (.int .i64 (ps : Int)) := by have := hrl.head.cell 4; rw [this, ← HPs1.out]; rfl
                    have c3 : wr.cell? ⟨lp, 3, none⟩ = some (.int .i64 (po : Int)) := by have := hrl.head.cell 3; rw [this, ← HPo1.out]; rfl
                    have g4 := hrl.head.frozen 4
                    have g3 := hrl.head.frozen 3
                    have T4 : Touch (fun q => q = lp) wr ((wr.setCell ⟨lp, 4, none⟩ (.int .i64 ((ps : Int) + (i : Int)))).setCell ⟨lp, 3, none⟩ (.int .i64 ((po : Int) + 1))) := (Touch.one ⟨lp, 4, none⟩ _).trans (Touch.one ⟨lp, 3, none⟩ _)
                    have hB4 : Blk ((wr.setCell ⟨lp, 4, none⟩ (.int .i64 ((ps : Int) + (i : Int)))).setCell ⟨lp, 3, none⟩ (.int .i64 ((po : Int) + 1))) lp 55 (rlhead r m1 { L1 with D := D9, posts := po + 1, laid := ps + i }) := by
                      have := (hrl.head.set 4 (.int .i64 ((ps : Int) + (i : Int)))).set 3 (.int .i64 ((po : Int) + 1))
                      have e1 : ((ps + i : Nat) : Int) = (ps : Int) + (i : Int) := by omega
                      have e2 : ((po + 1 : Nat) : Int) = (po : Int) + 1 := by omega
                      unfold rlhead at this ⊢
                      simp only [e1, e2]
                      exact this
                    have A4 : RL w0 lp r m1 n1 { L1 with D := D9, posts := po + 1, laid := ps + i } ((wr.setCell ⟨lp, 4, none⟩ (.int .i64 ((ps : Int) + (i : Int)))).setCell ⟨lp, 3, none⟩ (.int .i64 ((po : Int) + 1))) := hrl.set rfl rfl hB4 T4
                    have En4 : REnts ((wr.setCell ⟨lp, 4, none⟩ (.int .i64 ((ps : Int) + (i : Int)))).setCell ⟨lp, 3, none⟩ (.int .i64 ((po : Int) + 1))) a e := hY.en.touch T4 (fun g hg => by obtain ⟨cs, hc⟩ := hY.ty g hg; exact hc.ne hrl.head (by decide))
                    have ham : ∀ g, a = some ⟨g, 0, none⟩ → g ≠ m1 := fun g hg => by obtain ⟨cs, hc⟩ := hY.ty g hg; exact hrl.map.ne hc
                    have hn1 := Hn1.out
                    rw [HPs1.out] at hn1
                    have HTk := Lib.hid (rtake_any A4 (by omega) a e k c En4 ham HK.out (by omega) (fun x hx => HGo1.out x hx) (by show L1.ws.length ≤ 5000; omega))
                    have HT4 := Lib.hid (hY.tt.ltrans (T4.mono (fun q _ hq => by rw [hq]; exact hrl.lhead)))
                    have HA4 := Lib.hid A4
                    clear hti hlik HY hY hrl hup T4 hB4 A4 En4 ham
                    go_wp2_with fail
                    generalize (wr.setCell ⟨lp, 4, none⟩ (.int .i64 ((ps : Int) + (i : Int)))).setCell ⟨lp, 3, none⟩ (.int .i64 ((po : Int) + 1)) = w6 at *
                    refine HTk.out.mono ?_
                    rintro x w7 ⟨rfl, R7, T7⟩
                    have HF : Hid (RDone w0 lp r WE LW LW.laid w (.returned (.int .i64 0)) w7) := by
                      show RDone _ _ _ _ _ _ _ _ _
                      rw [HE4.out.1, HE4.out.2]
                      refine ⟨rfl, ⟨m1, n1 + k, R7, ?_⟩, HT4.out.ltrans (T7.mono (fun q _ hq => by rw [hq]; exact HA4.out.lmap))⟩
                      show n1 + k ≤ ps + i
                      omega
                    clear R7 T7
                    go_wp2_with fail
                    go_ret
                    exact HF.out
  · rw [decide_eq_false hgo]
    have HF : Hid (RDone w0 lp r WE LW LW.laid w (.returned (.int .i64 1)) w2) := by
      show RDone _ _ _ _ _ _ _ _ _
      rw [HWE.out, HWr.out, if_neg hgo, if_neg hgo]
      exact ⟨rfl, ⟨m, n, H.out.old HO2.out, Hn.out⟩, Touch.of_old HO2.out⟩
    clear hgo
    go_wp2_with fail
    go_ret
    exact HF.out
end Go.Proofs.YtmingbgohdhajaaGreat
