/- The reference's ledger in a law, no break being set: founded, written to, balanced. -/
import Derived.Test.YtmingbgohdhajaaRefX
namespace Go.Proofs.Ytmingbgohdhajaa
open Go.RowKit
set_option maxRecDepth 100000

theorem LiveL.rok {L : LS} {l r : Nat} {H : List (List Nat)} {es : List (List Ent)} (h : LiveL L l r H es) (hp : es.length ≤ 1000) (hm : 2 + l + H.length ≤ 1000) : L.ROk := by
  have k := h.ok (by omega)
  have R := h.live.is
  refine ⟨k.len, k.leaves, k.home, ?_, k.laid, by rw [h.round]; have := R.r2; omega, k.posts, ?_⟩
  · rw [k.len, h.leaves, h.hlen]; exact hm
  · rw [h.ws]; exact tookAll_trk (none_trk _) R.etrk

/-- The reference's ledger of a law. -/
structure RGood (w0 : World) (lp r l t h : Nat) (w : World) : Prop where
  at_ : ∃ m n L H es rr, RL w0 lp r m n L w ∧ n ≤ L.laid ∧ LiveL L l rr H es ∧ H.length = h ∧ rr ≤ 2 + 2 * t ∧ es.length ≤ t ∧ L.D.turns ≤ 200 + t * 200
theorem RGood.old {w0 w w' : World} {lp r l t h : Nat} (k : RGood w0 lp r l t h w) (o : Old w w') : RGood w0 lp r l t h w' := by
  obtain ⟨m, n, L, H, es, rr, A, q⟩ := k.at_
  exact ⟨m, n, L, H, es, rr, A.old o, q⟩
/-- The drum beneath it. -/
theorem RGood.drum {w0 w : World} {lp r l t h : Nat} (k : RGood w0 lp r l t h w) : ∃ D, Rs w0 r D w ∧ D.Ok ∧ Quiet D ∧ D.turns ≤ 200 + t * 200 ∧ D.T.length = 2 + l + h := by
  obtain ⟨m, n, L, H, es, rr, A, _, Lv, hH, _, _, ht⟩ := k.at_
  have := Lv.live.is.len
  rw [DS.seen_length, hH] at this
  exact ⟨L.D, A.rs, A.ok, Lv.quiet, ht, this⟩

theorem rgood_home {w0 w : World} {lp r l t h : Nat} (k : RGood w0 lp r l t h w) (ht : t ≤ 100) : Calls Try.prog 28 #[.pointer (some ⟨lp, 0, none⟩)] w fun e w' => e = .returned (.int .i64 (h : Int)) ∧ Old w w' := by
  obtain ⟨m, n, L, H, es, rr, A, _, Lv, hH, _, he, _⟩ := k.at_
  have := rlhome_any A (Lv.ok (by omega)).len
  rwa [Lv.hlen, hH] at this
theorem rgood_balance {w0 w : World} {lp r l t h : Nat} (k : RGood w0 lp r l t h w) (ht : t ≤ 100) (hl : 2 + l + h ≤ 60) : Calls Try.prog 30 #[.pointer (some ⟨lp, 0, none⟩)] w fun x w' => x = .returned (.int .i64 0) ∧ RGood w0 lp r l (t + 1) h w' ∧ Touch (lmine w0 w) w w' := by
  obtain ⟨m, n, L, H, es, rr, A, hn, Lv, hH, h1, h2, h3⟩ := k.at_
  obtain ⟨e1, e2, e3⟩ := balance_live Lv (by omega)
  have e4 := (balanced_live Lv (by omega)).1
  have hq := e4.quiet
  refine (rbalance_any A (Lv.rok (by omega) (by omega)) (by omega) Lv.lost).mono ?_
  rintro x w' ⟨rfl, ⟨m', n', A', hn'⟩, T⟩
  rw [hq.down] at hn'
  simp only [Bool.false_eq_true, if_false] at hn'
  rw [heed_quiet hq] at A'
  have hbt := balanced_turns L
  rw [Lv.hlen, hH] at hbt
  refine ⟨by rw [bad_quiet hq]; rfl, ⟨m', n', L.balanced, H, [], rr + 1, A', by omega, e4, hH, by omega, Nat.zero_le _, by omega⟩, T⟩
theorem rgood_write {w0 w : World} {lp r l t h : Nat} (k : RGood w0 lp r l t h w) (ht : t ≤ 100) (hl : 2 + l + h ≤ 60) (a : Option Addr) (e : List Ent) (len cap : Nat) (hE : REnts w a e) (hb : ∀ g, a = some ⟨g, 0, none⟩ → ∃ cs, Blk w g 120 cs) (hlen : e.length = len) (hlm : len ≤ 10) (hT : ∀ x ∈ e, Trk x.2) :
    Calls Try.prog 29 #[.pointer (some ⟨lp, 0, none⟩), .slice a len cap] w fun x w' => ∃ E : Nat, x = .returned (.int .i64 (E : Int)) ∧ RGood w0 lp r l (t + 1) h w' ∧ Touch (lmine w0 w) w w' := by
  obtain ⟨m, n, L, H, es, rr, A, hn, Lv, hH, h1, h2, h3⟩ := k.at_
  have hwt := write_turns L e
  rw [Lv.hlen, hlen, hH] at hwt
  have hle := leavesOf_le len
  refine (rwrite_any A hn (Lv.rok (by omega) (by omega)) (by rw [Lv.round]; omega) (by rw [Lv.count]; omega) (by omega) a e len cap hE hb hlen (by omega) hT).mono ?_
  rintro x w' ⟨rfl, ⟨m', n', A', hn'⟩, T⟩
  rcases write_live Lv (by omega) hT with ⟨q1, q2, q3⟩ | ⟨q1, q2, q3, q4⟩ | ⟨q1, q2, r', es', q3, q4, q5⟩
  · rw [q2] at A' hn'
    exact ⟨_, rfl, ⟨m', n', L, H, es, rr, A', hn', Lv, hH, by omega, by omega, by omega⟩, T⟩
  · rw [q2] at A' hn'
    exact ⟨_, rfl, ⟨m', n', L, H, es, rr, A', hn', Lv, hH, by omega, by omega, by omega⟩, T⟩
  · exact ⟨_, rfl, ⟨m', n', _, tookH H e, es', r', A', hn', q5, by rw [tookH_length]; exact hH, by omega, by omega, by omega⟩, T⟩

/-- Found and opened. -/
theorem rgood_new {w0 w : World} {r n l h : Nat} (hR : Rs w0 r (newD n l) w) (hok : (newD n l).Ok) (h0 : w0.heap.size ≤ w.heap.size) (hn : n = 2 + l + h) (hl : 5 ≤ l) (hh : 3 ≤ h) (hm : n ≤ 60) :
    Calls Try.prog 26 #[.pointer (some ⟨r, 0, none⟩)] w fun x w' => ∃ lp, x = .returned (.tuple #[.pointer (some ⟨lp, 0, none⟩), .int .i64 0]) ∧ RGood w0 lp r l 0 h w' ∧ Touch (lmine w0 w) w w' := by
  obtain ⟨F, Lv, _⟩ := newL_live hn hl hh (by omega)
  have hc := F.cover
  have ht := newL_turns (n := n) (l := l) (by omega) (by omega)
  have htn : (newD n l).turns ≤ l + 5 := by
    have := DS.run_turns (DS.new n) (foundT l)
    have e : (foundT l).length = 2 + l + 3 := by simp [foundT, beginT]
    rw [e] at this
    show ((DS.new n).run (foundT l)).turns ≤ _
    have : (DS.new n).turns = 0 := rfl
    omega
  have hlen : (newD n l).T.length = n := by show ((DS.new n).run (foundT l)).T.length = n; rw [DS.run_len]; simp [DS.new]
  refine (ropen_any hR hok (by omega) h0 (newD_quiet n l).down (by omega)).mono ?_
  intro x w' hx
  unfold ROpens at hx
  rw [hc] at hx
  obtain ⟨T, ⟨hd, _⟩ | ⟨hd, lp, m, rfl, _, A⟩⟩ := hx
  · have := Lv.quiet.down
    rw [show newL n l = openL (newD n l) 1 from rfl, hd] at this
    cases this
  · exact ⟨lp, rfl, ⟨m, 0, openL (newD n l) 1, zeroH h, [], 2, A, Nat.zero_le _, Lv, by simp [zeroH], by omega, Nat.zero_le _, by have : (openL (newD n l) 1).D.turns ≤ l + n + 10 := ht; omega⟩, T⟩
end Go.Proofs.Ytmingbgohdhajaa
