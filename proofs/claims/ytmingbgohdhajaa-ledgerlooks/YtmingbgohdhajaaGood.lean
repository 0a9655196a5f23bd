/- What a law's ledger answers, no break being set. -/
import Derived.Test.YtmingbgohdhajaaAct
namespace Go.Proofs.Ytmingbgohdhajaa
open Go.RowKit
set_option maxRecDepth 100000

section
variable {w0 w : World} {lp d l t : Nat} {H : List (List Nat)}
/-- The same, with nothing written in this round. -/
def Good0 (w0 : World) (lp d l t : Nat) (H : List (List Nat)) (w : World) : Prop := ∃ g b L r, LAt w0 lp d b g L w ∧ LiveL L l r H [] ∧ r ≤ 2 + t ∧ L.D.turns ≤ 200 + t * 100
theorem Good0.good (h : Good0 w0 lp d l t H w) : Good w0 lp d l t H w := by
  obtain ⟨g, b, L, r, A, Lv, h1, h2⟩ := h
  exact ⟨g, b, L, r, [], A, Lv, h1, Nat.zero_le _, h2⟩
theorem Good0.old {w' : World} (h : Good0 w0 lp d l t H w) (m : Old w w') : Good0 w0 lp d l t H w' := by
  obtain ⟨g, b, L, r, A, Lv, h1, h2⟩ := h
  exact ⟨g, b, L, r, A.step m, Lv, h1, h2⟩
theorem Good.old0 (h : Good w0 lp d l t H w) : Old w0 w := by
  obtain ⟨g, b, L, r, es, A, _⟩ := h.at_
  exact A.st.old

theorem good_settle (h : Good w0 lp d l t H w) (ht : t ≤ 100) : Calls Try.prog 22 #[.pointer (some ⟨lp, 0, none⟩)] w fun x w' => x = .returned (.int .i64 0) ∧ Good w0 lp d l (t + 1) H w' ∧ KeptL w w' := by
  obtain ⟨g, b, L, r, es, A, Lv, h1, h2, h3⟩ := h.at_
  obtain ⟨e1, e2, e3⟩ := settle_live Lv
  refine (lsettle_any A (by omega)).mono ?_
  rintro x w' ⟨rfl, N⟩
  obtain ⟨b', A'⟩ := N.1
  have := settle_turns L
  exact ⟨by rw [e1]; rfl, ⟨g, b', L.settle, r, es, A', e2, by omega, by omega, by omega⟩, N.2.1⟩
theorem good_balance (h : Good w0 lp d l t H w) (ht : t ≤ 100) (hl : 2 + l + H.length ≤ 60) : Calls Try.prog 18 #[.pointer (some ⟨lp, 0, none⟩)] w fun x w' => x = .returned (.int .i64 0) ∧ Good0 w0 lp d l (t + 1) H w' ∧ KeptL w w' := by
  obtain ⟨g, b, L, r, es, A, Lv, h1, h2, h3⟩ := h.at_
  obtain ⟨e1, e2, e3⟩ := balance_live Lv (by omega)
  refine (lbalance_any A (Lv.ok (by omega)) (by omega)).mono ?_
  rintro x w' ⟨rfl, N⟩
  obtain ⟨b', A'⟩ := N.1
  have := balance_turns L
  rw [Lv.hlen] at this
  exact ⟨by rw [e1]; rfl, ⟨g, b', L.balance, r + 1, A', e2, by omega, by omega⟩, N.2.1⟩
theorem good_blank (h : Good0 w0 lp d l t H w) (_ht : t ≤ 100) (hl : 2 + l + H.length ≤ 60) : Calls Try.prog 17 #[.pointer (some ⟨lp, 0, none⟩)] w fun x w' => x = .returned (.int .i64 (l : Int)) ∧ Old w w' := by
  obtain ⟨g, b, L, r, A, Lv, h1, h2⟩ := h
  refine (blank_any A.head (Lv.ok (Nat.zero_le _)).laid (by rw [Lv.leaves]; omega)).mono ?_
  rintro x w' ⟨rfl, O⟩
  refine ⟨?_, O⟩
  rw [Lv.leaves, Lv.laid]
  rfl
theorem good_open (h : Good w0 lp d l t H w) (ht : t ≤ 100) (hl : 2 + l + H.length ≤ 60) : Calls Try.prog 12 #[.pointer (some ⟨d, 0, none⟩)] w fun x w' => ∃ mp, x = .returned (.tuple #[.pointer (some ⟨mp, 0, none⟩), .int .i64 0]) ∧ Good w0 mp d l (t + 1) H w' ∧ KeptL w w' := by
  obtain ⟨g, b, L, r, es, A, Lv, h1, h2, h3⟩ := h.at_
  obtain ⟨e1, e2, e3, e4, e5⟩ := open_live Lv.quiet Lv.live.is (by omega)
  have hTl : L.D.T.length = 2 + l + H.length := by rw [← DS.seen_length]; exact Lv.live.is.len
  have htn := openL_turns (D := L.D) (k := r % 2)
  refine (open_any A.st (by omega)).mono ?_
  rintro x w' ⟨K, _, ⟨b', _, hne, _⟩ | ⟨k, mp, g', b', hk, _, _, rfl, A'⟩⟩
  · exact absurd e2 hne
  · obtain rfl : r % 2 = k := by rw [e1] at hk; injection hk
    exact ⟨mp, rfl, ⟨g', b', _, r + 1, [], A', e4, by omega, Nat.zero_le _, by omega⟩, K⟩
theorem good_write (h : Good w0 lp d l t H w) (ht : t ≤ 100) (hl : 2 + l + H.length ≤ 60) (a : Option Addr) (e : List Ent) (len cap : Nat) (En : Ents w a e) (hlen : e.length = len) (hlm : len ≤ 10) (hT : ∀ x ∈ e, Trk x.2) :
    Calls Try.prog 14 #[.pointer (some ⟨lp, 0, none⟩), .slice a len cap] w fun x w' => ∃ (E : Nat) (H' : List (List Nat)), x = .returned (.int .i64 (E : Int)) ∧ Good w0 lp d l (t + 1) H' w' ∧ KeptL w w' ∧ ((E = 1 ∧ H' = H) ∨ (E = 5 ∧ H' = H ∧ l < leavesOf len) ∨ (E = 0 ∧ H' = tookH H e ∧ Goes e H.length)) := by
  obtain ⟨g, b, L, r, es, A, Lv, h1, h2, h3⟩ := h.at_
  have hwt := write_turns L e
  rw [Lv.hlen, hlen] at hwt
  have hle := leavesOf_le len
  refine (write_any A (Lv.ok (by omega)) (by rw [Lv.round]; omega) (by rw [Lv.count]; omega) (by omega) a e len cap En hlen (by omega)).mono ?_
  rintro x w' ⟨rfl, N⟩
  obtain ⟨b', A'⟩ := N.1
  rcases write_live Lv (by omega) hT with ⟨q1, q2, q3⟩ | ⟨q1, q2, q3, q4⟩ | ⟨q1, q2, r', es', q3, q4, q5⟩
  · refine ⟨1, H, by rw [q1], ⟨g, b', L, r, es, ?_, Lv, by omega, by omega, by omega⟩, N.2.1, .inl ⟨rfl, rfl⟩⟩
    rw [q2] at A'; exact A'
  · refine ⟨5, H, by rw [q1], ⟨g, b', L, r, es, ?_, Lv, by omega, by omega, by omega⟩, N.2.1, .inr (.inl ⟨rfl, rfl, by rw [← hlen]; exact q4⟩)⟩
    rw [q2] at A'; exact A'
  · exact ⟨0, tookH H e, by rw [q1], ⟨g, b', _, r', es', A', q5, by omega, by omega, by omega⟩, N.2.1, .inr (.inr ⟨rfl, rfl, q2⟩)⟩
theorem good_look (h : Good w0 lp d l t H w) (ht : t ≤ 100) {k : Nat} {bs : List Nat} (hk : H[k]? = some bs) : Calls Try.prog 16 #[.pointer (some ⟨lp, 0, none⟩), .int .i64 k] w (LookedL bs w) := by
  obtain ⟨g, b, L, r, es, A, Lv, h1, h2, h3⟩ := h.at_
  have hkl := lt_of_get hk
  have e1 := Lv.home hkl
  rw [hk] at e1
  injection e1 with e1
  rw [e1]
  exact look_home A (Lv.ok (by omega)) Lv.lost Lv.quiet.down k (by rw [Lv.hlen]; exact hkl)
theorem good_home (h : Good w0 lp d l t H w) : Calls Try.prog 40 #[.pointer (some ⟨lp, 0, none⟩)] w fun x w' => x = .returned (.int .i64 (H.length : Int)) ∧ w = w' := by
  obtain ⟨g, b, L, r, es, A, Lv, h1, h2, h3⟩ := h.at_
  refine (home_any A.head).mono ?_
  rintro x w' ⟨rfl, rfl⟩
  exact ⟨by rw [Lv.hlen], rfl⟩
/-- Entries that a Write took are of home tracks. -/
theorem goes_at {e : List Ent} {n : Nat} (h : Goes e n) : ∀ x ∈ e, x.1 < n := fun x hx => (h.1 x hx).1
theorem tookH_snoc (H : List (List Nat)) (e : List Ent) (x : Ent) : tookH H (e ++ [x]) = (tookH H e).set x.1 x.2 := by simp [tookH]
theorem good_found {w0 w : World} (o : Old w0 w) {n l h : Nat} (hn : n = 2 + l + h) (hl : 5 ≤ l) (hh : 3 ≤ h) (hm : n ≤ 60) : Calls Try.prog 10 #[.int .i64 n, .int .i64 l] w fun x w' => ∃ lp d, x = .returned (.tuple #[.pointer (some ⟨lp, 0, none⟩), .pointer (some ⟨d, 0, none⟩)]) ∧ Good w0 lp d l 0 (zeroH h) w' ∧ KeptL w w' := by
  obtain ⟨F, Lv, hA⟩ := newL_live hn hl hh (by omega)
  have ht := newL_turns (n := n) (l := l) (by omega) (by omega)
  refine (foundL_any o n l F).mono ?_
  rintro x w' ⟨lp, d, g, b, rfl, A, K⟩
  exact ⟨lp, d, rfl, ⟨g, b, _, 2, [], A, Lv, Nat.le_refl _, Nat.zero_le _, by omega⟩, K⟩
end
end Go.Proofs.Ytmingbgohdhajaa
