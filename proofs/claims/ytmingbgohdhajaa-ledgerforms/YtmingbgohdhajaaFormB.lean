/- The program's drum and the reference's side by side, no break being set: laid on, settled, opened. -/
import Derived.Test.YtmingbgohdhajaaFormA
namespace Go.Proofs.Ytmingbgohdhajaa
open Go.RowKit
set_option maxRecDepth 100000
set_option linter.unusedSimpArgs false

theorem owns_keptL {w w' : World} {base size n : Nat} {e : TypeId} {v : Value} {xs : List Value} (h : w.ownsRow base e size v n xs) (m : KeptL w w') (he : otherL e) : w'.ownsRow base e size v n xs := by
  refine ⟨h.1, ?_⟩
  rcases h.2 with h0 | ⟨g, cap, cur, rfl, hb, hg, h1, h2, h3, h4⟩
  · exact .inl h0
  · exact .inr ⟨g, cap, cur, rfl, hb, m e g cur.toList he hg, h1, h2, h3, h4⟩
theorem Rs.keptL {w0 w w' : World} {r : Nat} {D : DS} (h : Rs w0 r D w) (m : KeptL w w') : Rs w0 r D w' := by
  obtain ⟨vt, va, ha⟩ := h.ex
  exact ⟨h.lo, vt, va, m 107 r _ (by unfold otherL other; decide) ha.head, owns_keptL ha.tr m (by unfold otherL other; decide), owns_keptL ha.af m (by unfold otherL other; decide)⟩

/-- Both drums are D. -/
structure Fm (wc w6 : World) (d z k : Nat) (D : DS) (w : World) : Prop where
  st : ∃ b, St wc d b D w
  rs : Rs w6 z D w
  lo : wc.heap.size ≤ w6.heap.size
  up : w6.heap.size ≤ w.heap.size
  ok : D.Ok
  q : Quiet D
  t : D.turns ≤ k
  n : D.T.length = 24
theorem Fm.old {wc w6 w w' : World} {d z k : Nat} {D : DS} (h : Fm wc w6 d z k D w) (o : Old w w') : Fm wc w6 d z k D w' := by
  obtain ⟨b, S⟩ := h.st
  exact ⟨⟨b, S.step o⟩, h.rs.old o, h.lo, Nat.le_trans h.up o.size, h.ok, h.q, h.t, h.n⟩
theorem Fm.since {wc w6 w : World} {d z k : Nat} {D : DS} (h : Fm wc w6 d z k D w) : Old wc w := by
  obtain ⟨b, S⟩ := h.st
  exact S.old
/-- The program's is laid on, the reference's not yet. -/
structure Fm2 (wc w6 : World) (d z k : Nat) (D D' : DS) (g : Nat) (xs : List Nat) (w : World) : Prop where
  st : ∃ b, St wc d b D' w
  rs : Rs w6 z D w
  lo : wc.heap.size ≤ w6.heap.size
  up : w6.heap.size ≤ w.heap.size
  ok : D.Ok
  q : Quiet D
  t : D.turns ≤ k
  n : D.T.length = 24
  l : Loose w g xs

theorem fm_lay {wc w6 wx w : World} {d z k : Nat} {D : DS} (F : Fm wc w6 d z k D wx) (O : Old wx w) (hk : k < 24) {g : Nat} {xs : List Nat} (hg : wx.heap.size ≤ g) (L : Loose w g xs) (hx : Trk xs) (cap : Nat) :
    Calls Try.prog 35 #[.pointer (some ⟨d, 0, none⟩), .int .i64 k, .slice (some ⟨g, 0, none⟩) 96 cap] w fun e w' => e = .returned (.int .i64 0) ∧ Fm2 wc w6 d z k D (D.step (.lay k xs)) g xs w' := by
  obtain ⟨b, S⟩ := F.st
  have S' := S.step O
  have nf : ¬ foot d b g := fun q => by have := S.dr.at_.lt g q; omega
  refine (lay_any d k b D w _ xs cap S'.dr (by have := F.t; omega) (by rw [F.n]; exact hk) L.has hx.len (fun g' o e => by cases e; exact nf)).mono ?_
  rintro e w' ⟨he, hd⟩
  have N := S'.next hd
  obtain ⟨b', _, T, _⟩ := hd
  exact ⟨by rw [he, DS.err_step D (.lay k xs), bad_quiet (F.q.step _)]; rfl, N.1, (F.rs.old O).kept N.2.1, F.lo, Nat.le_trans F.up (Nat.le_trans O.size T.size), F.ok, F.q, F.t, F.n, L.touch T nf⟩
theorem fm_rlay {wc w6 w : World} {d z k : Nat} {D : DS} {g : Nat} {xs : List Nat} (F : Fm2 wc w6 d z k D (D.step (.lay k xs)) g xs w) (hk : k < 24) (hx : Trk xs) (cap : Nat) :
    Calls Try.prog 36 #[.pointer (some ⟨z, 0, none⟩), .int .i64 k, .slice (some ⟨g, 0, none⟩) 96 cap] w fun e w' => e = .returned (.int .i64 0) ∧ Fm wc w6 d z (k + 1) (D.step (.lay k xs)) w' := by
  obtain ⟨b, S⟩ := F.st
  refine (rlay_step F.rs F.ok (by have := F.t; omega) F.up k g xs cap (by rw [F.n]; exact hk) hx F.l).mono ?_
  rintro e w' ⟨he, N, T⟩
  have ht := DS.step_turns D (.lay k xs)
  have := F.t
  exact ⟨by rw [he, bad_quiet (F.q.step _)]; rfl, ⟨b, S.lstay (Touch.of_rmine T) F.lo⟩, N.1, F.lo, Nat.le_trans F.up T.size, N.2, F.q.step _, by omega, by rw [DS.step_len]; exact F.n⟩

/-- Both settle. -/
theorem fm_settle {wc w6 w : World} {d z k : Nat} {D : DS} (F : Fm wc w6 d z k D w) (hk : k ≤ 1000) :
    Calls Try.prog 37 #[.pointer (some ⟨d, 0, none⟩)] w fun e w' => e = .returned (.int .i64 0) ∧ (∃ b, St wc d b (D.step .settle) w') ∧ Rs w6 z D w' ∧ w6.heap.size ≤ w'.heap.size := by
  obtain ⟨b, S⟩ := F.st
  refine (settle_turn S (by have := F.t; omega)).mono ?_
  rintro e w' ⟨he, N⟩
  exact ⟨by rw [he, bad_quiet (F.q.step _)]; rfl, N.1, F.rs.kept N.2.1, Nat.le_trans F.up N.2.2⟩
theorem fm_rsettle {wc w6 w w' : World} {d z k : Nat} {D : DS} (F : Fm wc w6 d z k D w) (hk : k ≤ 1000) (S : ∃ b, St wc d b (D.step .settle) w') (R : Rs w6 z D w') (hs : w6.heap.size ≤ w'.heap.size) :
    Calls Try.prog 38 #[.pointer (some ⟨z, 0, none⟩)] w' fun e w'' => e = .returned (.int .i64 0) ∧ Fm wc w6 d z (k + 1) (D.step .settle) w'' := by
  obtain ⟨b, S⟩ := S
  refine (rsettle_step R F.ok (by have := F.t; omega) hs).mono ?_
  rintro e w'' ⟨he, N, T⟩
  have ht := DS.step_turns D .settle
  have := F.t
  exact ⟨by rw [he, bad_quiet (F.q.step _)]; rfl, ⟨b, S.lstay (Touch.of_rmine T) F.lo⟩, N.1, F.lo, Nat.le_trans hs T.size, N.2, F.q.step _, by omega, by rw [DS.step_len]; exact F.n⟩

theorem openL_quiet {D : DS} (h : Quiet D) (k : Nat) : Quiet (openL D k).D := by
  show Quiet (LS.counted D k).reads.next.D
  rw [next_D]
  exact h.run _
theorem openL_ok {D : DS} {k : Nat} (h : coverK D = some k) (ok : D.Ok) : (openL D k).Ok := by
  refine (counted_ok h ok).reads.next ?_
  obtain ⟨_, hrd, _⟩ := pick_some h
  have hr : roundC (D.seen.getD k []) < 4294967296 := by
    refine num_lt (fun x hx => ?_) 4
    rcases Nat.lt_or_ge k D.seen.length with q | q
    · obtain ⟨y, hy⟩ := get_of_lt q
      rw [getD_of hy] at hx
      exact (DS.seen_trk ok y (mem_of_get hy)).byte x hx
    · rw [List.getD_eq_getElem?_getD, List.getElem?_eq_none q] at hx
      cases hx
  show roundC (D.seen.getD k []) < _
  omega

/-- What the program's Open leaves. -/
structure FOpen (wc w6 : World) (d z : Nat) (D : DS) (v : Value) (E : Nat) (w : World) : Prop where
  is : (E = 11 ∧ coverK D = none ∧ v = .pointer none ∧ ∃ b, St wc d b D w) ∨ (E = 0 ∧ ∃ k l g b, coverK D = some k ∧ v = .pointer (some ⟨l, 0, none⟩) ∧ LAt wc l d b g (openL D k) w)
  rs : Rs w6 z D w
  lo : wc.heap.size ≤ w6.heap.size
  up : w6.heap.size ≤ w.heap.size
theorem fm_open {wc w6 w : World} {d z k : Nat} {D : DS} (F : Fm wc w6 d z k D w) (hk : k ≤ 1000) :
    Calls Try.prog 12 #[.pointer (some ⟨d, 0, none⟩)] w fun e w' => ∃ v E, e = .returned (.tuple #[v, .int .i64 ((E : Nat) : Int)]) ∧ FOpen wc w6 d z D v E w' := by
  obtain ⟨b, S⟩ := F.st
  refine (open_any S (by have := F.t; omega)).mono ?_
  rintro x w' ⟨K, hsz, h⟩
  have hup := Nat.le_trans F.up hsz
  have hdn := F.q.down
  rcases h with ⟨b', rfl, hE, S'⟩ | ⟨k', l, g, b', hk', hE, _, rfl, A⟩
  · refine ⟨_, _, rfl, ⟨.inl ?_, F.rs.keptL K, F.lo, hup⟩⟩
    cases hc : coverK D with
    | none =>
      have e1 : openE D = 11 := by unfold openE; rw [hdn, hc]; rfl
      have e2 : openD D = D := by unfold openD; rw [hdn, hc]; rfl
      rw [e2] at S'
      exact ⟨e1, rfl, rfl, b', S'⟩
    | some k' =>
      refine absurd ?_ hE
      unfold openE
      rw [hdn, hc]
      exact bad_quiet (openL_quiet F.q k')
  · exact ⟨_, 0, rfl, ⟨.inr ⟨rfl, k', l, g, b', hk', rfl, A⟩, F.rs.keptL K, F.lo, hup⟩⟩
/-- What both leave. -/
structure FBoth (wc w6 : World) (d z : Nat) (D' : DS) (v v' : Value) (E : Nat) (w : World) : Prop where
  is : (E = 11 ∧ v = .pointer none) ∨ (E = 0 ∧ ∃ l lp g b m L, v = .pointer (some ⟨l, 0, none⟩) ∧ v' = .pointer (some ⟨lp, 0, none⟩) ∧ LAt wc l d b g L w ∧ RL w6 lp z m 0 L w ∧ L.Ok ∧ L.leaves ≤ 5000)
  st : ∃ b, St wc d b D' w
  rs : Rs w6 z D' w
  ok : D'.Ok
  dn : D'.down = false
  t : D'.turns ≤ 90000
  n : D'.T.length = 24
theorem FBoth.old {wc w6 w w' : World} {d z E : Nat} {D' : DS} {v v' : Value} (h : FBoth wc w6 d z D' v v' E w) (o : Old w w') : FBoth wc w6 d z D' v v' E w' := by
  obtain ⟨b, S⟩ := h.st
  refine ⟨?_, ⟨b, S.step o⟩, h.rs.old o, h.ok, h.dn, h.t, h.n⟩
  rcases h.is with q | ⟨q, l, lp, g, b, m, L, e1, e2, A, R, q'⟩
  · exact .inl q
  · exact .inr ⟨q, l, lp, g, b, m, L, e1, e2, A.step o, R.old o, q'⟩
theorem fm_ropen {wc w6 w w' : World} {d z k E : Nat} {D : DS} {v : Value} (F : Fm wc w6 d z k D w) (hk : k ≤ 1000) (H : FOpen wc w6 d z D v E w') :
    Calls Try.prog 26 #[.pointer (some ⟨z, 0, none⟩)] w' fun e w'' => ∃ v' D', e = .returned (.tuple #[v', .int .i64 (E : Int)]) ∧ FBoth wc w6 d z D' v v' E w'' := by
  have hn := F.n
  have ht := F.t
  refine (ropen_any H.rs F.ok (by omega) H.up F.q.down (by omega)).mono ?_
  intro x w'' hx
  unfold ROpens at hx
  rcases H.is with ⟨rfl, hc, rfl, b, S⟩ | ⟨rfl, k', l, g, b, hc, rfl, A⟩
  · rw [hc] at hx
    obtain ⟨rfl, O⟩ := hx
    exact ⟨_, D, rfl, ⟨.inl ⟨rfl, rfl⟩, ⟨b, S.step O⟩, H.rs.old O, F.ok, F.q.down, by omega, hn⟩⟩
  · rw [hc] at hx
    have hq := openL_quiet F.q k'
    have hL := openL_ok hc F.ok
    obtain ⟨T, ⟨hd, _⟩ | ⟨hd, lp, m, rfl, _, R⟩⟩ := hx
    · rw [hq.down] at hd
      cases hd
    · have htn : (openL D k').D.turns ≤ D.turns + D.T.length + 3 := openL_turns
      have hln : (openL D k').D.T.length = 24 := by
        show (LS.counted D k').reads.next.D.T.length = 24
        rw [next_len]
        exact hn
      have A' := A.lstay T H.lo
      have hle := hL.len
      refine ⟨_, (openL D k').D, rfl, ⟨.inr ⟨rfl, l, lp, g, b, m, openL D k', rfl, rfl, A', R, hL, by omega⟩, ⟨b, A'.st⟩, R.rs, R.ok, hq.down, by omega, hln⟩⟩
end Go.Proofs.Ytmingbgohdhajaa
