/- The contracts of the reference's Balance and Write. -/
import Derived.Test.YtmingbgohdhajaaGreatRefO
import Derived.Test.YtmingbgohdhajaaGreatAct
namespace Go.Proofs.YtmingbgohdhajaaGreat
open Go.RowKit
set_option maxRecDepth 100000
set_option linter.unusedSimpArgs false

/-- What a call answers, and what it leaves of the ledger. -/
def RDone (w0 : World) (lp r e : Nat) (L' : LS) (n : Nat) (w : World) (x : Ending) (w' : World) : Prop := x = .returned (.int .i64 (e : Int)) ∧ (∃ m' n', RL w0 lp r m' n' L' w' ∧ n' ≤ n) ∧ Touch (lmine w0 w) w w'
/-- Such a ledger of the reference as may be. -/
structure LS.ROk (L : LS) : Prop where
  len : L.D.T.length = 2 + L.leaves + L.ws.length
  leaves : 5 ≤ L.leaves
  home : 2 ≤ L.ws.length
  few : L.D.T.length ≤ 1000
  laid : L.laid ≤ L.leaves
  round : L.round ≤ 1000000000000
  posts : L.posts ≤ 1000000
  trk : ∀ (k : Nat) (b : List Nat), L.ws[k]? = some (some b) → Trk b
theorem LS.ROk.ws {L : LS} (h : L.ROk) : ∀ x ∈ L.ws, ∀ b, x = some b → Trk b := fun x hx b hb => by
  subst hb
  obtain ⟨i, hi⟩ := List.mem_iff_getElem?.1 hx
  exact h.trk i b hi
theorem LS.ROk.turn {L : LS} (h : L.ROk) (t : Trn) : ({ L with D := L.D.step t } : LS).ROk := ⟨by show (L.D.step t).T.length = _; rw [DS.step_len]; exact h.len, h.leaves, h.home, by show (L.D.step t).T.length ≤ _; rw [DS.step_len]; exact h.few, h.laid, h.round, h.posts, h.trk⟩

theorem heed_down' {L : LS} (h : L.D.down = true) : L.heed = { L with lost := true } := by unfold LS.heed; rw [h]; rfl
theorem heed_up' {L : LS} (h : L.D.down = false) : L.heed = L := by unfold LS.heed; rw [h]; rfl

set_option maxHeartbeats 6400000 in
theorem rbalance_any {w0 w : World} {lp r m n : Nat} {L : LS} (h : RL w0 lp r m n L w) (ok : L.ROk) (ht : L.D.turns ≤ 80000) (hlo : L.lost = false) :
    Calls Tryz.prog 13 #[.pointer (some ⟨lp, 0, none⟩)] w fun x w' => RDone w0 lp r L.balanced.D.bad L.balanced.heed (if L.balanced.D.down then n else 0) w x w' := by
  have c6 : w.cell? ⟨lp, 6, none⟩ = some (.bool false) := by rw [← hlo]; exact h.head.cell 6
  have c0 : w.cell? ⟨lp, 0, none⟩ = some (.pointer (some ⟨r, 0, none⟩)) := h.head.cell 0
  have hst := DS.step_turns L.D .settle
  have HS1 := Lib.hid (rsettle_step h.rs h.ok (by omega) h.n0)
  have H := Lib.hid h
  have HO1 := Lib.hid (ok.turn .settle)
  have HT1 : Hid ((L.D.step .settle).turns ≤ 90000) := by show _ ≤ _; omega
  have HB : Hid (L.balanced = if (L.D.step .settle).down then { L with D := L.D.step .settle } else { L with D := L.D.step .settle : LS }.next) := rfl
  generalize L.balanced = LB at *
  obtain ⟨nb, hnb⟩ : ∃ nb, (if LB.D.down then n else 0) = nb := ⟨_, rfl⟩
  have HNb := Lib.hid hnb
  rw [hnb]
  clear h ok ht hst hnb
  generalize L.D.step .settle = D1 at *
  cases hd : D1.down with
  | true =>
    rw [bad_down hd] at HS1
    have HE : Hid (LB = { L with D := D1 }) := by show _ = _; rw [HB.out, hd]; rfl
    have HDn := Lib.hid hd
    clear hd HB
    go_enter Tryz.func13, Tryz.ntmps13
    go_wp2_with fail
    refine HS1.out.mono ?_
    rintro x w1 ⟨rfl, N1⟩
    have HA1 := Lib.hid (H.out.turn N1)
    have HT := Lib.hid (Touch.of_rmine N1.2)
    clear N1 HS1
    go_wp2_with fail
    refine (ends_no HA1.out).mono ?_
    rintro x w2 ⟨rfl, R2, T2⟩
    have HF : Hid (RDone w0 lp r LB.D.bad LB.heed nb w (.returned (.int .i64 4)) w2) := by
      show RDone _ _ _ _ _ _ _ _ _
      have hdd : LB.D.down = true := by rw [HE.out]; exact HDn.out
      rw [bad_down hdd, heed_down' hdd, ← HNb.out, hdd, if_pos rfl]
      refine ⟨rfl, ⟨m, n, ?_, Nat.le_refl _⟩, HT.out.ltrans (T2.mono (fun q _ hq => by rw [hq]; exact HA1.out.lhead))⟩
      rw [HE.out]
      exact R2
    clear R2 T2
    go_wp2_with fail
    go_ret
    exact HF.out
  | false =>
    rw [bad_up hd] at HS1
    have HE : Hid (LB = { L with D := D1 : LS }.next) := by show _ = _; rw [HB.out, hd]; rfl
    clear hd HB
    go_enter Tryz.func13, Tryz.ntmps13
    go_wp2_with fail
    refine HS1.out.mono ?_
    rintro x w1 ⟨rfl, N1⟩
    have HA1 := Lib.hid (H.out.turn N1)
    have HT := Lib.hid (Touch.of_rmine N1.2)
    clear N1 HS1 H
    go_wp2_with fail
    refine (rlhome_all HA1.out HO1.out.len HO1.out.leaves (by have := HO1.out.round; omega) (by have := HO1.out.laid; have := HO1.out.len; have := HO1.out.few; omega) HT1.out HO1.out.ws).mono ?_
    rintro x w2 ⟨rfl, ⟨m2, n2, R2, hn2, hz2⟩, T2⟩
    rw [← HE.out] at R2 hz2 ⊢
    have HR2 := Lib.hid R2
    have HT2 := Lib.hid (HT.out.ltrans T2)
    have Hn2 := Lib.hid hn2
    have Hz2 := Lib.hid hz2
    clear R2 T2 hn2 hz2 HA1 HT HE
    cases hdd : LB.D.down with
    | true =>
      have HDn := Lib.hid hdd
      clear hdd
      go_wp2_with fail
      refine (ends_no HR2.out).mono ?_
      rintro x w3 ⟨rfl, R3, T3⟩
      have HF : Hid (RDone w0 lp r LB.D.bad LB.heed nb w (.returned (.int .i64 4)) w3) := by
        show RDone _ _ _ _ _ _ _ _ _
        rw [bad_down HDn.out, heed_down' HDn.out, ← HNb.out, HDn.out, if_pos rfl]
        exact ⟨rfl, ⟨m2, n2, R3, Hn2.out⟩, HT2.out.ltrans (T3.mono (fun q _ hq => by rw [hq]; exact HR2.out.lhead))⟩
      clear R3 T3
      go_wp2_with fail
      go_ret
      exact HF.out
    | false =>
      have HF : Hid (RDone w0 lp r LB.D.bad LB.heed nb w (.returned (.int .i64 0)) w2) := by
        show RDone _ _ _ _ _ _ _ _ _
        rw [bad_up hdd, heed_up' hdd, ← HNb.out, hdd]
        exact ⟨rfl, ⟨m2, n2, HR2.out, by rw [Hz2.out hdd]; exact Nat.zero_le _⟩, HT2.out⟩
      clear hdd
      go_wp2_with fail
      refine ends_yes.mono ?_
      rintro x w3 ⟨rfl, rfl⟩
      go_wp2_with fail
      go_ret
      exact HF.out
end Go.Proofs.YtmingbgohdhajaaGreat
