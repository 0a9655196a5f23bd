/- A law's ledger on a drum that may break, and falls: what each call answers. -/
import Derived.Test.YtjajenkagcdhlaaGreatTurns
import Derived.Test.YtjajenkagcdhlaaGreatStrs
import Derived.Test.YtjajenkagcdhlaaGreatCalm
namespace Go.Proofs.YtjajenkagcdhlaaGreat
open Go.RowKit
set_option maxRecDepth 100000

theorem RecE.htrk {T : List (List Nat)} {l r : Nat} {H : List (List Nat)} {es : List (List Ent)} (R : RecE T l r H es) : ∀ b ∈ H, Trk b := fun b hb => by
  obtain ⟨k, hk⟩ := List.getElem?_of_mem hb
  have hl := lt_of_get hk
  have hlen := R.len
  rw [R.home k hl] at hk
  injection hk with hk
  rw [← hk]
  unfold homeOf
  cases hw : (wrote H es).getD k none with
  | some x =>
    simp only
    refine tookAll_trk (none_trk H.length) R.etrk k x ?_
    rw [List.getD_eq_getElem?_getD] at hw
    cases hq : (wrote H es)[k]? with
    | none => rw [hq] at hw; cases hw
    | some y => rw [hq] at hw; exact congrArg some hw
  | none =>
    simp only
    obtain ⟨y, hy⟩ := get_of_lt (l := T) (n := 2 + l + k) (by omega)
    rw [getD_of hy]
    exact R.trk y (mem_of_get hy)

abbrev Hom := List (List Nat)
/-- Whatever falls of it: home is one of P. -/
def Wreck (w0 : Fr) (d l h t : Nat) (P : Hom → Prop) (w : World) : Prop := ∃ b D, St w0 d b D w ∧ CrashTA D.ta l (2 + t) P ∧ D.T.length = 2 + l + h ∧ D.turns ≤ 1000 + t * 300
/-- A drum that is broken. -/
def Sunk (w0 : Fr) (d l h t : Nat) (P : Hom → Prop) (w : World) : Prop := ∃ b D, St w0 d b D w ∧ D.down = true ∧ CrashTA D.ta l (2 + t) P ∧ D.T.length = 2 + l + h ∧ D.turns ≤ 1000 + t * 300
/-- A drum behind a fall; q: no break is set. -/
def Fell (w0 : Fr) (d l h t : Nat) (q : Bool) (P : Hom → Prop) (w : World) : Prop := ∃ b D r H es, St w0 d b D w ∧ D.down = false ∧ D.A = [] ∧ (q = true → D.left = none) ∧ RecE D.seen l r H es ∧ P H ∧ H.length = h ∧ r ≤ 2 + t ∧ D.turns ≤ 1000 + t * 300
/-- A ledger that runs: home is N; whatever falls, it is one of P. -/
def Sail (w0 : Fr) (lp d l h t : Nat) (q : Bool) (P : Hom → Prop) (N : Hom) (w : World) : Prop := ∃ g b L r H fs gs, LAt w0 lp d b g L w ∧ L.D.down = false ∧ RunL L.calm l r H fs gs ∧ (q = true → L.D.left = none) ∧ (∀ X, Some1 H gs X → P X) ∧ tookHs H gs = N ∧ N.length = h ∧ r ≤ 2 + t ∧ fs.length + gs.length ≤ t ∧ L.D.turns ≤ 1000 + t * 300

section
variable {w0 : Fr} {w w' : World} {lp d l h t t' : Nat} {q : Bool} {P P' : Hom → Prop} {N : Hom}
theorem Sunk.wreck (x : Sunk w0 d l h t P w) : Wreck w0 d l h t P w := by
  obtain ⟨b, D, h1, _, h2⟩ := x
  exact ⟨b, D, h1, h2⟩
theorem Wreck.mono (x : Wreck w0 d l h t P w) (hp : ∀ X, P X → P' X) (ht : t ≤ t') : Wreck w0 d l h t' P' w := by
  obtain ⟨b, D, h1, h2, h3, h4⟩ := x
  exact ⟨b, D, h1, h2.mono hp (by omega), h3, by omega⟩
theorem Sunk.mono (x : Sunk w0 d l h t P w) (hp : ∀ X, P X → P' X) (ht : t ≤ t') : Sunk w0 d l h t' P' w := by
  obtain ⟨b, D, h1, h0, h2, h3, h4⟩ := x
  exact ⟨b, D, h1, h0, h2.mono hp (by omega), h3, by omega⟩
theorem Fell.mono (x : Fell w0 d l h t q P w) (hp : ∀ X, P X → P' X) (ht : t ≤ t') : Fell w0 d l h t' q P' w := by
  obtain ⟨b, D, r, H, es, h1, h2, h3, h4, h5, h6, h7, h8, h9⟩ := x
  exact ⟨b, D, r, H, es, h1, h2, h3, h4, h5, hp _ h6, h7, by omega, by omega⟩
theorem Sail.mono (x : Sail w0 lp d l h t q P N w) (hp : ∀ X, P X → P' X) (ht : t ≤ t') : Sail w0 lp d l h t' q P' N w := by
  obtain ⟨g, b, L, r, H, fs, gs, h1, h2, h3, h4, h5, h6, h7, h8, h9, h10⟩ := x
  exact ⟨g, b, L, r, H, fs, gs, h1, h2, h3, h4, fun X hX => hp X (h5 X hX), h6, h7, by omega, by omega, by omega⟩
theorem Sail.wreck (x : Sail w0 lp d l h t q P N w) : Wreck w0 d l h t P w := by
  obtain ⟨g, b, L, r, H, fs, gs, h1, h2, h3, h4, h5, h6, h7, h8, h9, h10⟩ := x
  refine ⟨b, L.D, h1.st, h3.crash.mono h5 h8, ?_, h10⟩
  have := h3.recE.len
  rw [DS.seen_length] at this
  rw [this, h6, h7]
theorem Fell.old (x : Fell w0 d l h t q P w) (m : Old w w') : Fell w0 d l h t q P w' := by
  obtain ⟨b, D, r, H, es, h1, h2⟩ := x
  exact ⟨b, D, r, H, es, h1.step m, h2⟩
theorem Wreck.old (x : Wreck w0 d l h t P w) (m : Old w w') : Wreck w0 d l h t P w' := by
  obtain ⟨b, D, h1, h2⟩ := x
  exact ⟨b, D, h1.step m, h2⟩
theorem Sunk.old (x : Sunk w0 d l h t P w) (m : Old w w') : Sunk w0 d l h t P w' := by
  obtain ⟨b, D, h1, h2⟩ := x
  exact ⟨b, D, h1.step m, h2⟩
theorem Sail.old (x : Sail w0 lp d l h t q P N w) (m : Old w w') : Sail w0 lp d l h t q P N w' := by
  obtain ⟨g, b, L, r, H, fs, gs, h1, h2⟩ := x
  exact ⟨g, b, L, r, H, fs, gs, h1.step m, h2⟩
theorem Sail.old0 (x : Sail w0 lp d l h t q P N w) : Old w0.w w := by
  obtain ⟨g, b, L, r, H, fs, gs, h1, h2⟩ := x
  exact h1.st.old
theorem Wreck.old0 (x : Wreck w0 d l h t P w) : Old w0.w w := by
  obtain ⟨b, D, h1, h2⟩ := x
  exact h1.old
theorem Fell.old0 (x : Fell w0 d l h t q P w) : Old w0.w w := by
  obtain ⟨b, D, r, H, es, h1, h2⟩ := x
  exact h1.old
theorem Sail.len (x : Sail w0 lp d l h t q P N w) : N.length = h := by
  obtain ⟨g, b, L, r, H, fs, gs, h1, h2, h3, h4, h5, h6, h7, _⟩ := x
  exact h7
theorem Sail.trk (x : Sail w0 lp d l h t q P N w) : ∀ b ∈ N, Trk b := by
  obtain ⟨g, b, L, r, H, fs, gs, h1, h2, h3, h4, h5, h6, h7, _⟩ := x
  have := h3.recE.htrk
  rwa [h6] at this
theorem Sail.now (x : Sail w0 lp d l h t q P N w) : P N := by
  obtain ⟨g, b, L, r, H, fs, gs, h1, h2, h3, h4, h5, h6, h7, _⟩ := x
  rw [← h6]
  exact h5 _ (some1_all H gs)
theorem calm_ok {L : LS} (h : L.calm.Ok) : L.Ok := ⟨h.leaves, h.home, h.len, h.laid, h.round, h.posts⟩

theorem sail_settle (x : Sail w0 lp d l h t q P N w) (ht : t ≤ 200) : Calls Tryz.prog 46 #[.pointer (some ⟨lp, 0, none⟩)] w fun y w' => KeptL w w' ∧ ((y = .returned (.int .i64 0) ∧ Sail w0 lp d l h (t + 1) q (fun X => X = N) N w') ∨ (y = .returned (.int .i64 4) ∧ q = false ∧ Sunk w0 d l h (t + 1) P w')) := by
  obtain ⟨g, b, L, r, H, fs, gs, A, hd, R, hq, hP, hN, hh, hr, hc, hx⟩ := x
  refine (lsettle_any A (by omega)).mono ?_
  rintro y w' ⟨rfl, M⟩
  obtain ⟨b', A'⟩ := M.1
  have htu := settle_turns L
  refine ⟨M.2.1, ?_⟩
  rcases settle_break hd R with ⟨e1, e2, e3⟩ | ⟨e1, e2, e3, e4⟩
  · refine .inl ⟨by rw [e1]; rfl, g, b', L.settle, r, _, _, [], A', e2, e3, fun hqq => ?_, fun X ⟨j, hj, hX⟩ => ?_, hN, hh, by omega, by rw [List.length_append, List.length_nil]; omega, by omega⟩
    · have e : L.settle = { L with D := L.D.step .settle } := (settle_live (L := L) (by
        have h0 : L.calm = L := by unfold LS.calm DS.calm; rw [← hq hqq]
        have := R.live
        rwa [h0] at this)).2.2
      rw [e]
      exact ((⟨hq hqq, hd⟩ : Quiet L.D).step .settle).left
    · have : j = 0 := Nat.le_zero.1 hj
      subst this
      rw [hX]
      exact hN
  · refine .inr ⟨by rw [e1]; rfl, ?_, b', L.settle.D, A'.st, e3, e4.mono hP (by omega), ?_, by omega⟩
    · cases q with
      | false => rfl
      | true => exact absurd (hq rfl) e2
    · have h1 := R.recE.len
      rw [DS.seen_length] at h1
      have h2 : L.settle.D.T.length = L.D.T.length := by
        unfold LS.settle
        split
        · rfl
        · rw [show ({ L with D := L.D.step .settle } : LS).heed.D = L.D.step .settle by unfold LS.heed; split <;> rfl]
          exact DS.run_len L.D [.settle]
      rw [h2, h1, hN, hh]
theorem quiet_of {L : LS} {r : Nat} {H : Hom} {fs gs : List (List Ent)} (R : RunL L.calm l r H fs gs) (h : L.D.left = none) : RunL L l r H fs gs := by
  have h0 : L.calm = L := by unfold LS.calm DS.calm; rw [← h]
  rwa [h0] at R
theorem heed_D (L : LS) : L.heed.D = L.D := by unfold LS.heed; split <;> rfl
theorem balance_len (L : LS) : L.balance.D.T.length = L.D.T.length := by
  unfold LS.balance
  split
  · rfl
  · rw [heed_D]
    unfold LS.balanced
    split
    · exact DS.run_len L.D [.settle]
    · rw [next_len]; exact DS.run_len L.D [.settle]
theorem write_len (L : LS) (e : List Ent) : (L.write e).D.T.length = L.D.T.length := by
  have hb : L.balanced.D.T.length = L.D.T.length := by
    unfold LS.balanced
    split
    · exact DS.run_len L.D [.settle]
    · rw [next_len]; exact DS.run_len L.D [.settle]
  unfold LS.write
  split
  · split
    · rfl
    · split
      · rfl
      · rw [heed_D]
        unfold LS.post
        split
        · split
          · exact hb
          · rw [layP_D, DS.run_len, hb]
        · rw [layP_D, DS.run_len]
  · rfl
theorem sail_balance (x : Sail w0 lp d l h t q P N w) (ht : t ≤ 200) (hl : 2 + l + h ≤ 120) : Calls Tryz.prog 58 #[.pointer (some ⟨lp, 0, none⟩)] w fun y w' => KeptL w w' ∧ ((y = .returned (.int .i64 0) ∧ Sail w0 lp d l h (t + 1) q (fun X => X = N) N w') ∨ (y = .returned (.int .i64 4) ∧ q = false ∧ Sunk w0 d l h (t + 1) P w')) := by
  obtain ⟨g, b, L, r, H, fs, gs, A, hd, R, hq, hP, hN, hh, hr, hc, hx⟩ := x
  have hok := calm_ok (R.live.ok (by rw [List.length_append]; omega))
  refine (lbalance_any A hok (by omega)).mono ?_
  rintro y w' ⟨rfl, M⟩
  obtain ⟨b', A'⟩ := M.1
  have htu := balance_turns L
  have hws : L.ws.length = h := by have h1 : L.ws.length = (tookHs H gs).length := R.live.hlen; rw [h1, hN, hh]
  have hlost : L.lost = false := R.live.lost
  rw [hws] at htu
  have eE : L.balanceE = L.balanced.D.bad := by unfold LS.balanceE; rw [hlost]; rfl
  have eB : L.balance = L.balanced.heed := by unfold LS.balance; rw [hlost]; rfl
  refine ⟨M.2.1, ?_⟩
  rcases balanced_break hd R (by omega) with ⟨e2, e3⟩ | ⟨e2, e3, e4⟩
  · have eh : L.balance = L.balanced := by rw [eB]; unfold LS.heed; rw [e2]; rfl
    rw [← eh] at e2 e3
    refine .inl ⟨by rw [eE, ← eh, bad_up e2]; rfl, g, b', L.balance, r + 1, _, [], [], A', e2, e3, fun hqq => ?_, fun X ⟨j, hj, hX⟩ => ?_, hN, hh, by omega, by simp, by omega⟩
    · exact (balance_live (quiet_of R (hq hqq)).live (by omega)).2.1.quiet.left
    · have : j = 0 := Nat.le_zero.1 hj
      subst this
      rw [hX]
      exact hN
  · refine .inr ⟨by rw [eE, bad_down e3]; rfl, ?_, b', L.balance.D, A'.st, by rw [eB, heed_D]; exact e3, by rw [eB, heed_D]; exact e4.mono hP (by omega), ?_, by omega⟩
    · cases q with
      | false => rfl
      | true => exact absurd (hq rfl) e2
    · have h1 := R.recE.len
      rw [DS.seen_length] at h1
      rw [balance_len, h1, hN, hh]
theorem heed_ws (L : LS) : L.heed.ws = L.ws := by unfold LS.heed; split <;> rfl
theorem next_ws (L : LS) : L.next.ws.length = L.ws.length := by
  unfold LS.next
  simp only
  split
  · rfl
  · simp
theorem balanced_ws (L : LS) : L.balanced.ws.length = L.ws.length := by
  unfold LS.balanced
  split
  · rfl
  · rw [next_ws]
theorem layP_ws (L : LS) (e : List Ent) : (L.layP e).ws.length = L.ws.length := by
  unfold LS.layP
  simp only
  split
  · rfl
  · simp [took_length]
theorem write_ws (L : LS) (e : List Ent) : (L.write e).ws.length = L.ws.length := by
  unfold LS.write
  split
  · split
    · rfl
    · split
      · rfl
      · rw [heed_ws]
        unfold LS.post
        split
        · split
          · exact balanced_ws L
          · rw [layP_ws, balanced_ws]
        · rw [layP_ws]
  · rfl
theorem heed_lost {L : LS} (h : L.heed.D.down = true) : L.heed.lost = true := by
  rw [heed_D] at h
  unfold LS.heed
  rw [h]
  rfl
theorem write_lost {L : LS} {e : List Ent} (h : (L.write e).D.down = true) (h0 : L.D.down = false) : (L.write e).lost = true := by
  unfold LS.write at h ⊢
  split
  · split
    · rename_i q1 q2
      rw [if_pos q1, if_pos q2] at h
      rw [h0] at h
      cases h
    · split
      · rename_i q1 q2 q3
        rw [if_pos q1, if_neg q2, if_pos q3, h0] at h
        cases h
      · rename_i q1 q2 q3
        rw [if_pos q1, if_neg q2, if_neg q3] at h
        exact heed_lost h
  · rename_i q1
    rw [if_neg q1, h0] at h
    cases h
/-- What Write answers. -/
def Writes (w0 : Fr) (lp d l h t : Nat) (q : Bool) (P : Hom → Prop) (N : Hom) (e : List Ent) (E : Nat) (w' : World) : Prop :=
  (E = 1 ∧ ¬ Goes e h ∧ Sail w0 lp d l h (t + 1) q P N w') ∨ (E = 5 ∧ l < leavesOf e.length ∧ Sail w0 lp d l h (t + 1) q P N w') ∨ (E = 0 ∧ Goes e h ∧ Sail w0 lp d l h (t + 1) q (fun X => P X ∨ X = tookH N e) (tookH N e) w') ∨ (E = 4 ∧ q = false ∧ Goes e h ∧ Sunk w0 d l h (t + 1) (fun X => P X ∨ X = tookH N e) w' ∧ ∃ g L', Blk w' lp 129 (lhead d g L') ∧ L'.ws.length = h ∧ L'.lost = true)
theorem sail_write (x : Sail w0 lp d l h t q P N w) (ht : t ≤ 200) (hl : 2 + l + h ≤ 120) (a : Option Addr) (e : List Ent) (len cap : Nat) (En : Ents w a e) (hlen : e.length = len) (hlm : len ≤ 60) (hT : ∀ x ∈ e, Trk x.2) :
    Calls Tryz.prog 44 #[.pointer (some ⟨lp, 0, none⟩), .slice a len cap] w fun y w' => ∃ E : Nat, y = .returned (.int .i64 (E : Int)) ∧ KeptL w w' ∧ Writes w0 lp d l h t q P N e E w' := by
  obtain ⟨g, b, L, r, H, fs, gs, A, hd, R, hq, hP, hN, hh, hr, hc, hx⟩ := x
  have hok := calm_ok (R.live.ok (by rw [List.length_append]; omega))
  have hws : L.ws.length = h := by have h1 : L.ws.length = (tookHs H gs).length := R.live.hlen; rw [h1, hN, hh]
  have hHl : H.length = h := by rw [← hh, ← hN, tookHs_length]
  have a1 : L.round = r := R.live.round
  have a2 : L.posts = (fs ++ gs).length := R.live.count
  have hwt := write_turns L e
  rw [hws, hlen] at hwt
  have hle := leavesOf_le len
  refine (write_any A hok (by rw [a1]; omega) (by rw [a2, List.length_append]; omega) (by omega) a e len cap En hlen (by omega)).mono ?_
  rintro y w' ⟨rfl, M⟩
  obtain ⟨b', A'⟩ := M.1
  refine ⟨_, rfl, M.2.1, ?_⟩
  rcases write_break hd R (by omega) hT with ⟨e1, e2, e9⟩ | ⟨e1, e2, e9⟩ | ⟨e1, hg, e2, r', H', fs', gs', k1, k2, k3, k4, k5⟩ | ⟨e1, hg, e2, e3, e4⟩
  · rw [e2] at A'
    exact .inl ⟨e1, by rw [← hHl]; exact e9, g, b', L, r, H, fs, gs, A', hd, R, hq, hP, hN, hh, by omega, by omega, by omega⟩
  · rw [e2] at A'
    exact .inr (.inl ⟨e1, e9, g, b', L, r, H, fs, gs, A', hd, R, hq, hP, hN, hh, by omega, by omega, by omega⟩)
  · rw [hN] at k3 k5
    refine .inr (.inr (.inl ⟨e1, by rw [← hHl]; exact hg, g, b', L.write e, r', H', fs', gs', A', e2, k2, fun hqq => ?_, fun X hX => ?_, k3, by rw [tookH_length, hh], by omega, by omega, by omega⟩))
    · rcases write_live (quiet_of R (hq hqq)).live (e := e) (by omega) hT with ⟨q1, q2, _⟩ | ⟨q1, q2, _⟩ | ⟨q1, q2, _, _, _, _, q5⟩
      · rw [q2]; exact hq hqq
      · rw [q2]; exact hq hqq
      · exact q5.quiet.left
    · rcases k5 X hX with c | c
      · exact .inl (hP X c)
      · exact .inr c
  · rw [hN] at e4
    refine .inr (.inr (.inr ⟨e1, ?_, by rw [← hHl]; exact hg, ⟨b', (L.write e).D, A'.st, e3, e4.mono (fun X hX => ?_) (by omega), ?_, by omega⟩, g, L.write e, A'.head, by rw [write_ws, hws], write_lost e3 hd⟩))
    · cases q with
      | false => rfl
      | true => exact absurd (hq rfl) e2
    · rcases hX with c | c
      · exact .inl (hP X c)
      · exact .inr c
    · have h1 := R.recE.len
      rw [DS.seen_length] at h1
      rw [write_len, h1, hN, hh]
theorem sail_break (x : Sail w0 lp d l h t q P N w) (n : Int) (hn : n ≤ 1000) : Calls Tryz.prog 24 #[.pointer (some ⟨d, 0, none⟩), .int .i64 n] w fun y w' => y = .returned (.tuple #[]) ∧ KeptL w w' ∧ Sail w0 lp d l h t false P N w' := by
  obtain ⟨g, b, L, r, H, fs, gs, A, hd, R, hq, hP, hN, hh, hr, hc, hx⟩ := x
  refine (break_st A.st n hn).mono ?_
  rintro y w' ⟨rfl, M⟩
  obtain ⟨b', A'⟩ := A.next M
  exact ⟨rfl, .of_kept M.2.1, g, b', _, r, H, fs, gs, A', hd, R, (fun q => by cases q), hP, hN, hh, hr, hc, hx⟩
theorem fell_break (x : Fell w0 d l h t q P w) (n : Int) (hn : n ≤ 1000) : Calls Tryz.prog 24 #[.pointer (some ⟨d, 0, none⟩), .int .i64 n] w fun y w' => y = .returned (.tuple #[]) ∧ KeptL w w' ∧ Fell w0 d l h t false P w' := by
  obtain ⟨b, D, r, H, es, S, hd, hA, hq, R, hP, hh, hr, hx⟩ := x
  refine (break_st S n hn).mono ?_
  rintro y w' ⟨rfl, M⟩
  obtain ⟨b', S'⟩ := M.1
  exact ⟨rfl, .of_kept M.2.1, b', _, r, H, es, S', hd, hA, (fun q => by cases q), R, hP, hh, hr, hx⟩
theorem wreck_fall (x : Wreck w0 d l h t P w) (ht : t ≤ 300) (a : Option Addr) (ys : List Int) (len cap : Nat) (torn cut : Int) (hI : HasI w a ys) (hlen : ys.length = len) (hlm : len ≤ 1000) :
    Calls Tryz.prog 26 #[.pointer (some ⟨d, 0, none⟩), .slice a len cap, .int .i64 torn, .int .i64 cut] w fun y w' => y = .returned (.tuple #[]) ∧ KeptL w w' ∧ Fell w0 d l h t true P w' := by
  obtain ⟨b, D, S, C, hl, hx⟩ := x
  refine (fall_st S (by omega) a ys len cap torn cut hI hlen (by omega)).mono ?_
  rintro y w' ⟨rfl, M⟩
  obtain ⟨b', S'⟩ := M.1
  obtain ⟨r, H, es, R, hP, hr⟩ := C (partOf ys torn cut) (partOf_le ys torn cut)
  have hR : RecE (D.fall (partOf ys torn cut)).seen l r H es := R
  refine ⟨rfl, .of_kept M.2.1, b', _, r, H, es, S', rfl, rfl, fun _ => rfl, hR, hP, ?_, hr, hx⟩
  have h1 := R.len
  rw [falls_length] at h1
  have h2 : D.T.length = 2 + l + h := hl
  have h3 : D.ta.1.length = 2 + l + h := hl
  omega
theorem sail_broken (x : Sail w0 lp d l h t q P N w) : Calls Tryz.prog 25 #[.pointer (some ⟨d, 0, none⟩)] w fun y w' => y = .returned (.bool false) ∧ w = w' := by
  obtain ⟨g, b, L, r, H, fs, gs, A, hd, _⟩ := x
  refine (broken_any d b L.D _ w A.st.dr.at_).mono ?_
  rintro y w' ⟨rfl, rfl⟩
  exact ⟨by rw [hd], rfl⟩
theorem sunk_broken (x : Sunk w0 d l h t P w) : Calls Tryz.prog 25 #[.pointer (some ⟨d, 0, none⟩)] w fun y w' => y = .returned (.bool true) ∧ w = w' := by
  obtain ⟨b, D, S, hd, _⟩ := x
  refine (broken_any d b D _ w S.dr.at_).mono ?_
  rintro y w' ⟨rfl, rfl⟩
  exact ⟨by rw [hd], rfl⟩
/-- Open, no break being set. -/
theorem fell_open (x : Fell w0 d l h t true P w) (ht : t ≤ 200) (hl : 2 + l + h ≤ 120) : Calls Tryz.prog 47 #[.pointer (some ⟨d, 0, none⟩)] w fun y w' => ∃ mp N, y = .returned (.tuple #[.pointer (some ⟨mp, 0, none⟩), .int .i64 0]) ∧ P N ∧ Sail w0 mp d l h (t + 1) true (fun X => X = N) N w' ∧ KeptL w w' := by
  obtain ⟨b, D, r, H, es, S, hd, hA, hq, R, hP, hh, hr, hx⟩ := x
  obtain ⟨hk, ⟨e1, e2, e3, e4⟩ | ⟨e1, e2, _⟩⟩ := open_break hd hA R (by omega)
  · have htn := openL_turns (D := D) (k := r % 2)
    have hTl : D.T.length = 2 + l + H.length := by rw [← DS.seen_length]; exact R.len
    have hlv := open_live ⟨hq rfl, hd⟩ R (by omega)
    refine (open_any S (by omega)).mono ?_
    rintro y w' ⟨K, _, ⟨b', _, hne, _⟩ | ⟨k, mp, g', b', hk', _, _, rfl, A'⟩⟩
    · exact absurd e1 hne
    · obtain rfl : r % 2 = k := by rw [hk] at hk'; injection hk'
      refine ⟨mp, H, rfl, hP, ⟨g', b', _, r + 1, H, [], [], A', e3, e4, fun _ => hlv.2.2.2.1.quiet.left, fun X ⟨j, hj, hX⟩ => ?_, rfl, hh, by omega, by simp, by omega⟩, K⟩
      have : j = 0 := Nat.le_zero.1 hj
      subst this
      exact hX
  · exact absurd (hq rfl) e2
/-- Open, while it may break: whatever it answers. -/
theorem fell_open_any (x : Fell w0 d l h t q P w) (ht : t ≤ 200) (hl : 2 + l + h ≤ 120) : Calls Tryz.prog 47 #[.pointer (some ⟨d, 0, none⟩)] w fun y w' => ∃ a b, y = .returned (.tuple #[a, b]) ∧ Wreck w0 d l h (t + 1) P w' ∧ KeptL w w' := by
  obtain ⟨b, D, r, H, es, S, hd, hA, hq, R, hP, hh, hr, hx⟩ := x
  have htn := openL_turns (D := D) (k := r % 2)
  have hTl : D.T.length = 2 + l + H.length := by rw [← DS.seen_length]; exact R.len
  have hlen : (openL D (r % 2)).D.T.length = D.T.length := by
    show (LS.counted D (r % 2)).reads.next.D.T.length = _
    rw [next_len]
    rfl
  refine (open_any S (by omega)).mono ?_
  obtain ⟨hk, ⟨e1, e2, e3, e4⟩ | ⟨e1, e2, e3, e4⟩⟩ := open_break hd hA R (by omega)
  · rintro y w' ⟨K, _, ⟨b', _, hne, _⟩ | ⟨k, mp, g', b', hk', _, _, rfl, A'⟩⟩
    · exact absurd e1 hne
    · obtain rfl : r % 2 = k := by rw [hk] at hk'; injection hk'
      refine ⟨_, _, rfl, ⟨b', _, A'.st, e4.crash.mono (fun X ⟨j, hj, hX⟩ => ?_) (by omega), by rw [hlen, hTl, hh], by omega⟩, K⟩
      have : j = 0 := Nat.le_zero.1 hj
      subst this
      rw [hX]
      exact hP
  · rintro y w' ⟨K, _, ⟨b', rfl, hne, S'⟩ | ⟨k, mp, g', b', hk', h0, _, rfl, A'⟩⟩
    · have eD : openD D = (openL D (r % 2)).D := by unfold openD; rw [hd, hk]; rfl
      refine ⟨_, _, rfl, ⟨b', _, S', e4.mono (fun X hX => by rw [hX]; exact hP) (by omega), by rw [eD, hlen, hTl, hh], by rw [eD]; omega⟩, K⟩
    · rw [e1] at h0; cases h0
/-- Opened again. -/
theorem sail_open (x : Sail w0 lp d l h t true P N w) (ht : t ≤ 200) (hl : 2 + l + h ≤ 120) : Calls Tryz.prog 47 #[.pointer (some ⟨d, 0, none⟩)] w fun y w' => ∃ mp, y = .returned (.tuple #[.pointer (some ⟨mp, 0, none⟩), .int .i64 0]) ∧ Sail w0 mp d l h (t + 1) true (fun X => X = N) N w' ∧ KeptL w w' := by
  obtain ⟨g, b, L, r, H, fs, gs, A, hd, R, hq, hP, hN, hh, hr, hc, hx⟩ := x
  have R' := quiet_of R (hq rfl)
  have hRe : RecE L.D.seen l r N (fs ++ gs) := by have := R'.live.live.is; rwa [hN] at this
  obtain ⟨e1, e2, e3, e4, e5⟩ := open_live R'.live.quiet hRe (by omega)
  have hTl : L.D.T.length = 2 + l + N.length := by rw [← DS.seen_length]; exact hRe.len
  have htn := openL_turns (D := L.D) (k := r % 2)
  refine (open_any A.st (by omega)).mono ?_
  rintro y w' ⟨K, _, ⟨b', _, hne, _⟩ | ⟨k, mp, g', b', hk, _, _, rfl, A'⟩⟩
  · exact absurd e2 hne
  · obtain rfl : r % 2 = k := by rw [e1] at hk; injection hk
    have h0 : (openL L.D (r % 2)).calm = openL L.D (r % 2) := by unfold LS.calm DS.calm; rw [← e4.quiet.left]
    refine ⟨mp, rfl, ⟨g', b', _, r + 1, N, [], [], A', e4.quiet.down, by rw [h0]; exact RunL.fresh e4 e5, fun _ => e4.quiet.left, fun X ⟨j, hj, hX⟩ => ?_, rfl, hh, by omega, by simp, by omega⟩, K⟩
    have : j = 0 := Nat.le_zero.1 hj
    subst this
    exact hX
theorem sail_size (x : Sail w0 lp d l h t q P N w) : Calls Tryz.prog 48 #[.pointer (some ⟨lp, 0, none⟩)] w fun y w' => y = .returned (.int .i64 (h : Int)) ∧ w = w' := by
  obtain ⟨g, b, L, r, H, fs, gs, A, hd, R, hq, hP, hN, hh, hr, hc, hx⟩ := x
  have hws : L.ws.length = h := by have h1 : L.ws.length = (tookHs H gs).length := R.live.hlen; rw [h1, hN, hh]
  refine (home_any A.head).mono ?_
  rintro y w' ⟨rfl, rfl⟩
  exact ⟨by rw [hws], rfl⟩
end
end Go.Proofs.YtjajenkagcdhlaaGreat
