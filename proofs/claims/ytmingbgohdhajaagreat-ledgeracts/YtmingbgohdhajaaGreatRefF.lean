/- The contracts of lariatref3.Found and read. -/
import Derived.Test.YtmingbgohdhajaaGreatRefP
import Derived.Test.YtmingbgohdhajaaGreatTakeJ
import Derived.Test.YtmingbgohdhajaaGreatLive
namespace Go.Proofs.YtmingbgohdhajaaGreat
open Go.RowKit
set_option maxRecDepth 100000
set_option linter.unusedSimpArgs false

theorem wpGrow_skip {P : Program} {ops : Array Oper} {Q : Exit → Act → World → Prop} {md : Region.Mode} {i : Nat} {oi : Oper} {fuel : Nat} {listed : Array Bool} {a : Act} {w : World} (hi : ops[i]? = some oi)
    (hs : Region.noSelect ops = true) (hf : Region.free md ops listed i = true) (hr : (Region.ready md ops listed).contains i = true)
    (hQ : ∀ c a w, Q (.panic c) (a.put oi.dst undef) w → Q (.panic c) a w) (hw : Region.wanted oi (yielded ops a.tmps) = false)
    (h : wpGrow P md ops Q fuel (listed.setIfInBounds i true) (a.put oi.dst undef) w) : wpGrow P md ops Q (fuel + 1) listed a w :=
  wpAnyH_take hi hs hf hr hQ (.inr ⟨hw, rfl⟩) (Touch.refl _ w) h

/-- What a call leaves of the reference's drum. -/
def RN (w0 : World) (r : Nat) (D' : DS) (w w' : World) : Prop := (Rs w0 r D' w' ∧ D'.Ok) ∧ Touch (rmine w0 w) w w'
theorem RN.trans {w0 w w1 w2 : World} {r : Nat} {D1 D2 : DS} (h : RN w0 r D1 w w1) (k : RN w0 r D2 w1 w2) : RN w0 r D2 w w2 := ⟨k.1, h.2.rtrans k.2⟩
theorem RN.ahead {w0 w w1 w2 : World} {r : Nat} {D : DS} (o : Old w w1) (k : RN w0 r D w1 w2) : RN w0 r D w w2 := ⟨k.1, Touch.rtrans (Touch.of_old o) k.2⟩
theorem RN.same {w0 w : World} {r : Nat} {D : DS} (h : Rs w0 r D w) (ok : D.Ok) : RN w0 r D w w := ⟨⟨h, ok⟩, Touch.refl _ _⟩
theorem RN.behind {w0 w w1 w2 : World} {r : Nat} {D : DS} (k : RN w0 r D w w1) (o : Old w1 w2) : RN w0 r D w w2 := ⟨⟨k.1.1.old o, k.1.2⟩, k.2.rtrans (Touch.of_old o)⟩

theorem rlay_step {w0 w : World} {r : Nat} {D : DS} (h : Rs w0 r D w) (ok : D.Ok) (ht : D.turns ≤ 99999) (h0w : w0.heap.size ≤ w.heap.size) (k g : Nat) (xs : List Nat) (cap : Nat) (hk : k < D.T.length) (hx : Trk xs) (hL : Loose w g xs) :
    Calls Tryz.prog 41 #[.pointer (some ⟨r, 0, none⟩), .int .i64 k, .slice (some ⟨g, 0, none⟩) 96 cap] w fun e w' => e = .returned (.int .i64 (D.step (.lay k xs)).bad) ∧ RN w0 r (D.step (.lay k xs)) w w' :=
  (rlay_any h ok ht h0w k _ xs cap hk hx.len (fun b o e => by cases e; exact hL.not) hL.has).mono fun _ _ ⟨he, hn⟩ => ⟨by rw [← DS.err_step]; exact he, ⟨hn.1, ok.lain hk hx⟩, hn.2⟩
theorem rsettle_step {w0 w : World} {r : Nat} {D : DS} (h : Rs w0 r D w) (ok : D.Ok) (ht : D.turns ≤ 99999) (h0w : w0.heap.size ≤ w.heap.size) :
    Calls Tryz.prog 42 #[.pointer (some ⟨r, 0, none⟩)] w fun e w' => e = .returned (.int .i64 (D.step .settle).bad) ∧ RN w0 r (D.step .settle) w w' :=
  (rsettle_any h ok ht h0w).mono fun _ _ ⟨he, hn⟩ => ⟨by rw [← DS.err_step]; exact he, ⟨hn.1, ok.settled⟩, hn.2⟩
theorem rfound_no {w0 w : World} {r : Nat} {D : DS} (h : Rs w0 r D w) (hm : D.T.length ≤ 4096) (l : Nat) (hl : l ≤ 65535) (hf : fits l D.T.length = false) :
    Calls Tryz.prog 8 #[.pointer (some ⟨r, 0, none⟩), .int .i64 (l : Int)] w fun e w' => e = .returned (.int .i64 1) ∧ w = w' := by
  have HF := Lib.hid (rmayBe_any h hm l hl)
  rw [hf] at HF
  clear h hf
  go_enter Tryz.func8, Tryz.ntmps8
  go_wp2_with fail
  refine HF.out.mono ?_
  rintro x w' ⟨rfl, rfl⟩
  go_wp2_with fail
  go_ret
  exact ⟨rfl, rfl⟩

set_option maxHeartbeats 3200000 in
theorem rfound_any {w0 w : World} {r : Nat} {D : DS} (h : Rs w0 r D w) (ok : D.Ok) (ht : D.turns ≤ 90000) (h0w : w0.heap.size ≤ w.heap.size) (l : Nat) (hf : fits l D.T.length = true) :
    Calls Tryz.prog 8 #[.pointer (some ⟨r, 0, none⟩), .int .i64 (l : Int)] w fun e w' => e = .returned (.int .i64 (D.run (foundT l)).bad) ∧ RN w0 r (D.run (foundT l)) w w' := by
  have hll : l + 4 ≤ D.T.length := by unfold fits at hf; have := of_decide_eq_true hf; omega
  have hlm := ok.many
  have HF := Lib.hid (rmayBe_any h ok.many l (by omega))
  rw [hf] at HF
  have HTn := Lib.hid ht
  have H0 := Lib.hid h0w
  have HN0 : Hid (RN w0 r (D.run (blankT 0)) w w) := RN.same h ok
  obtain ⟨DD, hDD⟩ : ∃ DD, D.run (foundT l) = DD := ⟨_, rfl⟩
  have HDD := Lib.hid hDD
  rw [hDD]
  clear hDD
  obtain ⟨n, hn⟩ : ∃ n, D.T.length = n := ⟨_, rfl⟩
  have HDn := Lib.hid hn
  rw [hn] at hll hlm
  clear h hf ht ok hn h0w
  have hw1 : IntKind.i64.wrap (2 + (l : Int)) = 2 + (l : Int) := wrap_fits ⟨by omega, by omega⟩
  go_enter Tryz.func8, Tryz.ntmps8
  go_wp2_with fail
  refine HF.out.mono ?_
  rintro x w' ⟨rfl, rfl⟩
  clear HF
  go_wp2_with fail
  go_loopw [5] (fun i wx => ∃ k : Nat, k ≤ 2 + l ∧ i = .int .i64 k ∧ Hid (RN w0 r (D.run (blankT k)) w wx)) (fun i _ => 2 + l - (intOf i).toNat)
  case atStart => exact ⟨0, by omega, rfl, HN0⟩
  case round =>
    obtain ⟨k, hk, rfl, HN⟩ := hrel
    clear HN0
    have htk := DS.run_turns D (blankT k)
    have hlk := DS.run_len D (blankT k)
    rw [blankT_length] at htk
    by_cases hlt : k < 2 + l
    · have i1 : (k : Int) < 2 + (l : Int) := by omega
      have HTk : Hid ((D.run (blankT k)).turns ≤ 99999) := by show _ ≤ _; have := HTn.out; omega
      have HLk : Hid (k < (D.run (blankT k)).T.length) := by show _ < _; rw [hlk, HDn.out]; omega
      have HR : Hid (D.run (blankT (k + 1)) = (D.run (blankT k)).step (.lay k (zeros 96))) := by show _ = _; rw [blankT_next, DS.run_snoc]
      have HP : Hid (DD = (D.run (blankT (k + 1))).run ((blankT (2 + l)).drop (k + 1) ++ beginT 1 l)) := by
        show _ = _
        rw [← HDD.out]
        obtain ⟨r, hr⟩ := blankT_part (show k + 1 ≤ 2 + l by omega)
        unfold foundT
        rw [show (List.range (2 + l)).map (fun k => Trn.lay k (zeros 96)) = blankT (2 + l) from rfl, hr, List.drop_left' (blankT_length _), List.append_assoc, DS.run_append]
      clear htk hlk
      go_wp2_with fail
      refine (zeros_any wr).mono ?_
      rintro x w1 ⟨rfl, K1, O1⟩
      have HR1 := Lib.hid (HN.out.1.1.old O1)
      have HL1 := Lib.hid (Own.of_blk (zeros_byte 96) K1).loose
      have HN1 := Lib.hid (HN.out.behind O1)
      have HOk := Lib.hid HN.out.1.2
      clear K1 O1 HN
      go_wp2_with fail
      refine (rlay_step HR1.out HOk.out HTk.out (Nat.le_trans H0.out HN1.out.2.size) k _ (zeros 96) 96 HLk.out trk_zeros HL1.out).mono ?_
      rintro x w2 ⟨rfl, N2⟩
      rw [← HR.out] at N2 ⊢
      have HN2 := Lib.hid (HN1.out.trans N2)
      clear N2 HN1 HR1 HL1 HR HOk HTk HLk
      obtain ⟨D1, hD1⟩ : ∃ D1, D.run (blankT (k + 1)) = D1 := ⟨_, rfl⟩
      have HD1 := Lib.hid hD1
      rw [hD1] at HN2 HP ⊢
      clear hD1
      cases hd : D1.down with
      | true =>
        rw [bad_down hd]
        have HE : Hid (DD = D1) := by show _ = _; rw [HP.out, DS.run_down hd]
        have HB := Lib.hid (bad_down hd)
        clear hd HP
        go_wp2_with fail
        go_ret
        refine ⟨?_, ?_⟩
        · rw [HE.out, HB.out]; rfl
        · rw [HE.out]; exact HN2.out
      | false =>
        rw [bad_up hd]
        clear hd HP
        go_wp2_with fail
        exact ⟨⟨k + 1, by omega, by go_num, by rw [HD1.out]; exact HN2⟩, by simp [intOf]; omega⟩
    · obtain rfl : k = 2 + l := by omega
      have i1 : ¬ ((2 + l : Nat) : Int) < 2 + (l : Int) := by omega
      have HTk : Hid ((D.run (blankT (2 + l))).turns ≤ 99990) := by show _ ≤ _; have := HTn.out; omega
      have HLk : Hid ((D.run (blankT (2 + l))).T.length = n) := by show _ = _; rw [hlk, HDn.out]
      have HR : Hid (DD = (((D.run (blankT (2 + l))).step .settle).step (.lay 1 (cover 1 l))).step .settle) := by show _ = _; rw [← HDD.out]; unfold foundT; rw [DS.run_append]; rfl
      clear htk hlk
      clear HDD
      generalize D.run (blankT (2 + l)) = D0 at *
      have h1t := DS.step_turns D0 .settle
      have h1l := DS.step_len D0 .settle
      go_wp2_with fail
      refine (rsettle_step HN.out.1.1 HN.out.1.2 (by have := HTk.out; omega) (Nat.le_trans H0.out HN.out.2.size)).mono ?_
      rintro x w1 ⟨rfl, N1⟩
      have HN1 := Lib.hid (HN.out.trans N1)
      have HT1 : Hid ((D0.step .settle).turns ≤ 99991) := by show _ ≤ _; have := HTk.out; omega
      have HL1 : Hid ((D0.step .settle).T.length = n) := by show _ = _; rw [h1l, HLk.out]
      clear N1 HN HTk HLk h1t h1l
      generalize D0.step .settle = D1 at *
      cases hd1 : D1.down with
      | true =>
        have HE : Hid (DD = D1) := by show _ = _; rw [HR.out, DS.step_down hd1, DS.step_down hd1]
        have HB := Lib.hid (bad_down hd1)
        rw [HB.out]
        clear hd1 HR
        go_wp2_with fail
        go_ret
        refine ⟨?_, ?_⟩
        · rw [HE.out, HB.out]; rfl
        · rw [HE.out]; exact HN1.out
      | false =>
        rw [bad_up hd1]
        clear hd1
        have h2t := DS.step_turns D1 (.lay 1 (cover 1 l))
        go_wp2_with fail
        refine (rcover_any 1 l w1 (by omega) (by omega)).mono ?_
        rintro x w2 ⟨g2, c2, rfl, _, _, G2, T2⟩
        rw [cover_length]
        have HR2 := Lib.hid (HN1.out.1.1.old T2)
        have HN2 := Lib.hid (HN1.out.behind T2)
        have HLo := Lib.hid G2.own.loose
        clear G2 T2 HN1
        go_wp2_with fail
        refine (rlay_step HR2.out HN2.out.1.2 (by have := HT1.out; omega) (Nat.le_trans H0.out HN2.out.2.size) 1 _ (cover 1 l) c2 (by rw [HL1.out]; omega) (cover_trk 1 l) HLo.out).mono ?_
        rintro x w3 ⟨rfl, N3⟩
        have HN3 := Lib.hid (HN2.out.trans N3)
        have HT3 : Hid ((D1.step (.lay 1 (cover 1 l))).turns ≤ 99992) := by show _ ≤ _; have := HT1.out; omega
        clear N3 HN2 HR2 HLo h2t HT1 HL1
        generalize D1.step (.lay 1 (cover 1 l)) = D2 at *
        cases hd2 : D2.down with
        | true =>
          have HE : Hid (DD = D2) := by show _ = _; rw [HR.out, DS.step_down hd2]
          have HB := Lib.hid (bad_down hd2)
          rw [HB.out]
          clear hd2 HR
          go_wp2_with fail
          go_ret
          refine ⟨?_, ?_⟩
          · rw [HE.out, HB.out]; rfl
          · rw [HE.out]; exact HN3.out
        | false =>
          rw [bad_up hd2]
          clear hd2
          go_wp2_with fail
          refine (rsettle_step HN3.out.1.1 HN3.out.1.2 (by have := HT3.out; omega) (Nat.le_trans H0.out HN3.out.2.size)).mono ?_
          rintro x w4 ⟨rfl, N4⟩
          rw [← HR.out] at N4 ⊢
          have HN4 := Lib.hid (HN3.out.trans N4)
          clear N4 HN3 HR
          go_wp2_with fail
          go_ret
          exact ⟨rfl, HN4.out⟩

end Go.Proofs.YtmingbgohdhajaaGreat
