/- A ledger and its drum; the contracts of its small methods, of begin and Found. -/
import Derived.Test.YtmingbgohdhajaaTake
namespace Go.Proofs.Ytmingbgohdhajaa
open Go.RowKit
set_option maxRecDepth 100000

theorem Next.trans {w0 w w1 w2 : World} {d : Nat} {D1 D2 : DS} (h : Next w0 d D1 w w1) (k : Next w0 d D2 w1 w2) : Next w0 d D2 w w2 := ⟨k.1, h.2.1.trans k.2.1, Nat.le_trans h.2.2 k.2.2⟩
theorem St.same {w0 w : World} {d : Nat} {b : Bl} {D : DS} (h : St w0 d b D w) : Next w0 d D w w := ⟨⟨b, h⟩, Kept.refl w, Nat.le_refl _⟩
theorem Next.ahead {w0 w w1 w2 : World} {d : Nat} {D : DS} (o : Old w w1) (k : Next w0 d D w1 w2) : Next w0 d D w w2 := ⟨k.1, (Kept.of_old o).trans k.2.1, Nat.le_trans o.size k.2.2⟩

theorem lay_byt {w0 w : World} {d : Nat} {b : Bl} {D : DS} (h : St w0 d b D w) (ht : D.turns ≤ 99999) (k : Nat) (p : Option Addr) (xs : List Nat) (hk : k < D.T.length) (hx : xs.length = 96) (K : Byt w p xs) (cap : Nat) :
    Calls Try.prog 35 #[.pointer (some ⟨d, 0, none⟩), .int .i64 k, .slice p 96 cap] w fun e w' => e = .returned (.int .i64 (D.step (.lay k xs)).bad) ∧ Next w0 d (D.step (.lay k xs)) w w' :=
  (lay_any d k b D w p xs cap h.dr ht hk K.has hx (fun g o e => by
    obtain ⟨cs, hb⟩ := K.blk g o e
    exact h.dr.not_foot hb (by unfold other; decide))).mono fun _ _ ⟨he, hd⟩ => ⟨by rw [← DS.err_step]; exact he, h.next hd⟩
theorem settle_turn {w0 w : World} {d : Nat} {b : Bl} {D : DS} (h : St w0 d b D w) (ht : D.turns ≤ 99999) :
    Calls Try.prog 37 #[.pointer (some ⟨d, 0, none⟩)] w fun e w' => e = .returned (.int .i64 (D.step .settle).bad) ∧ Next w0 d (D.step .settle) w w' :=
  (settle_st h ht).mono fun _ _ ⟨he, hd⟩ => ⟨by rw [← DS.err_step]; exact he, hd⟩

theorem bad_down {D : DS} (h : D.down = true) : D.bad = 4 := by unfold DS.bad; rw [h]; rfl
theorem bad_up {D : DS} (h : D.down = false) : D.bad = 0 := by unfold DS.bad; rw [h]; rfl
theorem cover_length (r l : Nat) : (cover r l).length = 96 := track_length (by rw [coverText_length]; omega)

set_option maxHeartbeats 1600000 in
theorem begin_any {w0 w : World} {d : Nat} {b : Bl} {D : DS} (h : St w0 d b D w) (ht : D.turns ≤ 99990) (r l : Nat) (hr : r ≤ 140737488355328) (hl : l ≤ 140737488355328) :
    Calls Try.prog 50 #[.pointer (some ⟨d, 0, none⟩), .int .i64 r, .int .i64 l] w fun e w' => e = .returned (.int .i64 (D.run (beginT r l)).bad) ∧ Next w0 d (D.run (beginT r l)) w w' := by
  have H := Lib.hid h
  have HT := Lib.hid ht
  have HF := Lib.hid h.dr.ok.few
  have h1t := DS.step_turns D .settle
  have h1l := DS.step_len D .settle
  have HR : Hid (D.run (beginT r l) = ((D.step .settle).step (.lay (r % 2) (cover r l))).step .settle) := rfl
  have e2 : (r : Int).tmod 2 = ((r % 2 : Nat) : Int) := by rw [Int.tmod_eq_emod_of_nonneg (by omega)]; omega
  have hr2 : r % 2 < 2 := by omega
  generalize D.run (beginT r l) = DD at *
  generalize r % 2 = r2 at *
  clear h ht
  go_enter Try.func50, Try.ntmps50
  go_wp2_with fail
  refine (settle_turn H.out (by have := HT.out; omega)).mono ?_
  rintro x w1 ⟨rfl, N1⟩
  have HN1 := Lib.hid N1
  have HT1 : Hid ((D.step .settle).turns ≤ 99991) := by show _ ≤ _; have := HT.out; omega
  have HF1 : Hid (10 ≤ (D.step .settle).T.length) := by show _ ≤ _; rw [h1l]; exact HF.out
  clear N1 h1t h1l H HT HF
  generalize D.step .settle = D1 at *
  cases hd1 : D1.down with
  | true =>
    have HE : Hid (DD = D1) := by show _ = _; rw [HR.out, DS.step_down hd1, DS.step_down hd1]
    have HB := Lib.hid (bad_down hd1)
    rw [HB.out]
    clear hd1 HR
    go_wp2_with fail
    go_ret
    refine ⟨?_, ?_⟩
    · rw [HE.out, HB.out]; rfl
    · rw [HE.out]; exact HN1.out
  | false =>
    rw [bad_up hd1]
    clear hd1
    have h2t := DS.step_turns D1 (.lay r2 (cover r l))
    go_wp2_with fail
    refine (layCover_any r l w1 hr hl).mono ?_
    rintro x w2 ⟨g2, rfl, hg2, O2, T2⟩
    obtain ⟨b1, S1⟩ := HN1.out.1
    have HS2 := Lib.hid (S1.step T2)
    have HN2 : Hid (Next w0 d D1 w w2) := ⟨⟨b1, HS2.out⟩, HN1.out.2.1.trans (Kept.of_old T2), Nat.le_trans HN1.out.2.2 T2.size⟩
    have HB2 := Lib.hid O2.byt
    clear O2 T2 S1 HN1 hg2
    go_wp2_with fail
    refine (lay_byt HS2.out (by have := HT1.out; omega) r2 _ (cover r l) (by have := HF1.out; omega) (cover_length r l) HB2.out 96).mono ?_
    rintro x w3 ⟨rfl, N3⟩
    have HN3 := Lib.hid (HN2.out.trans N3)
    have HT3 : Hid ((D1.step (.lay r2 (cover r l))).turns ≤ 99992) := by show _ ≤ _; have := HT1.out; omega
    clear N3 HB2 HS2 HN2 h2t
    generalize D1.step (.lay r2 (cover r l)) = D2 at *
    cases hd2 : D2.down with
    | true =>
      have HE : Hid (DD = D2) := by show _ = _; rw [HR.out, DS.step_down hd2]
      have HB := Lib.hid (bad_down hd2)
      rw [HB.out]
      clear hd2 HR
      go_wp2_with fail
      go_ret
      refine ⟨?_, ?_⟩
      · rw [HE.out, HB.out]; rfl
      · rw [HE.out]; exact HN3.out
    | false =>
      rw [bad_up hd2]
      clear hd2
      obtain ⟨b3, S3⟩ := HN3.out.1
      have HS3 := Lib.hid S3
      clear S3
      go_wp2_with fail
      refine (settle_turn HS3.out (by have := HT3.out; omega)).mono ?_
      rintro x w4 ⟨rfl, N4⟩
      rw [← HR.out] at N4 ⊢
      have HN4 := Lib.hid (HN3.out.trans N4)
      clear N4 HN3 HS3 HR
      go_wp2_with fail
      go_ret
      exact ⟨rfl, HN4.out⟩
end Go.Proofs.Ytmingbgohdhajaa
