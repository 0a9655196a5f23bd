/- What is kept of a ledger through a law's acts, whatever breaks. -/
import Derived.Test.YtmingbgohdhajaaGreatRefX
import Derived.Test.YtmingbgohdhajaaGreatLive
namespace Go.Proofs.YtmingbgohdhajaaGreat
open Go.RowKit
set_option maxRecDepth 100000

theorem LS.ROk.ok {L : LS} (h : L.ROk) : L.Ok := ⟨h.leaves, h.home, h.len, h.laid, h.round, h.posts⟩
theorem LS.ROk.layP {L : LS} (h : L.ROk) {e : List Ent} (hl : leavesOf e.length ≤ L.leaves - L.laid) (hp : L.posts < 1000000) (he : ∀ x ∈ e, Trk x.2) : (L.layP e).ROk := by
  have hlaid := h.laid
  unfold LS.layP
  simp only
  split
  · exact ⟨by show (L.D.run _).T.length = _; rw [DS.run_len]; exact h.len, h.leaves, h.home, by show (L.D.run _).T.length ≤ _; rw [DS.run_len]; exact h.few, h.laid, h.round, h.posts, h.trk⟩
  · exact ⟨by show (L.D.run _).T.length = 2 + L.leaves + (took L.ws e).length; rw [DS.run_len, took_length]; exact h.len, h.leaves, by show 2 ≤ (took L.ws e).length; rw [took_length]; exact h.home, by show (L.D.run _).T.length ≤ _; rw [DS.run_len]; exact h.few, by show L.laid + leavesOf e.length ≤ L.leaves; omega, h.round, by show L.posts + 1 ≤ _; omega, took_trk h.trk he⟩
theorem LS.ROk.heed {L : LS} (h : L.ROk) : L.heed.ROk := by
  unfold LS.heed
  split
  · exact ⟨h.len, h.leaves, h.home, h.few, h.laid, h.round, h.posts, h.trk⟩
  · exact h
theorem balanced_posts {L : LS} : L.balanced.posts ≤ L.posts := by
  unfold LS.balanced
  split
  · exact Nat.le_refl _
  · unfold LS.next
    simp only
    split
    · exact Nat.le_refl _
    · exact Nat.zero_le _
theorem balanced_round {L : LS} : L.balanced.round ≤ L.round + 1 := by
  unfold LS.balanced
  split
  · exact Nat.le_succ _
  · exact next_round _
theorem layP_more {L : LS} {e : List Ent} : (L.layP e).posts ≤ L.posts + 1 ∧ (L.layP e).round = L.round ∧ (L.layP e).D.T.length = L.D.T.length := by
  unfold LS.layP
  simp only
  split
  · exact ⟨Nat.le_succ _, rfl, DS.run_len _ _⟩
  · exact ⟨Nat.le_refl _, rfl, DS.run_len _ _⟩
theorem LS.ROk.post {L : LS} (h : L.ROk) {e : List Ent} (hl : leavesOf e.length ≤ L.leaves) (hr : L.round < 1000000000000) (hp : L.posts < 1000000) (he : ∀ x ∈ e, Trk x.2) : (L.post e).ROk := by
  unfold LS.post
  split
  · split
    · exact h.balanced hr
    · rename_i hd
      have hd' : L.balanced.D.down = false := by simpa using hd
      have h0 := (balanced_laid hd').1
      have h1 := rbalanced_leaves L
      exact (h.balanced hr).layP (by rw [h0, h1]; omega) (by have := @balanced_posts L; omega) he
  · exact h.layP (by omega) hp he
theorem post_more {L : LS} {e : List Ent} : (L.post e).posts ≤ L.posts + 1 ∧ (L.post e).round ≤ L.round + 1 ∧ (L.post e).D.T.length = L.D.T.length := by
  have b1 := @balanced_posts L
  have b2 := @balanced_round L
  have b3 : L.balanced.D.T.length = L.D.T.length := by
    unfold LS.balanced
    split
    · exact DS.step_len _ _
    · rw [next_len]; exact DS.step_len _ _
  unfold LS.post
  split
  · split
    · exact ⟨by omega, b2, b3⟩
    · obtain ⟨q1, q2, q3⟩ := @layP_more L.balanced e
      exact ⟨by omega, by omega, by rw [q3]; exact b3⟩
  · obtain ⟨q1, q2, q3⟩ := @layP_more L e
    exact ⟨q1, by omega, q3⟩
theorem heed_low {L : LS} : L.heed.D.down = true → L.heed.lost = true := fun h => by
  unfold LS.heed at h ⊢
  split
  · rfl
  · rename_i hd
    rw [if_neg hd] at h
    exact absurd h hd
theorem heed_same {L : LS} : L.heed.posts = L.posts ∧ L.heed.round = L.round ∧ L.heed.D = L.D := by unfold LS.heed; split <;> exact ⟨rfl, rfl, rfl⟩

/-- A ledger behind t acts. -/
structure Fit (L : LS) (t nT : Nat) : Prop where
  ok : L.ROk
  n : L.D.T.length = nT
  round : L.round ≤ 5000000000 + t
  posts : L.posts ≤ t
  turns : L.D.turns ≤ 1000 + 1000 * t
  low : L.D.down = true → L.lost = true
theorem Fit.more {L : LS} {t nT : Nat} (h : Fit L t nT) : Fit L (t + 1) nT := ⟨h.ok, h.n, by have := h.round; omega, by have := h.posts; omega, by have := h.turns; omega, h.low⟩
theorem leavesOf_small {n : Nat} (h : n ≤ 5) : leavesOf n ≤ 60 := by have := leavesOf_le n; omega
theorem Fit.write {L : LS} {t nT : Nat} (h : Fit L t nT) (ht : t ≤ 30) (hn : nT ≤ 60) {e : List Ent} (he : ∀ x ∈ e, Trk x.2) (hel : e.length ≤ 5) : Fit (L.write e) (t + 1) nT := by
  have hr := h.round
  have hp := h.posts
  have htn := h.turns
  have hw := write_turns L e
  have hle := leavesOf_small hel
  have hlen := h.ok.len
  have hnn := h.n
  have hturn : (L.write e).D.turns ≤ 1000 + 1000 * (t + 1) := by omega
  by_cases hg : Goes e L.ws.length
  · by_cases hlo : L.lost = true
    · have e1 : L.write e = L := by unfold LS.write; rw [if_pos hg, if_pos hlo]
      rw [e1]; exact h.more
    · by_cases hb : L.leaves < leavesOf e.length
      · have e1 : L.write e = L := by unfold LS.write; rw [if_pos hg, if_neg hlo, if_pos hb]
        rw [e1]; exact h.more
      · have e1 : L.write e = (L.post e).heed := by unfold LS.write; rw [if_pos hg, if_neg hlo, if_neg hb]
        obtain ⟨q1, q2, q3⟩ := @post_more L e
        obtain ⟨s1, s2, s3⟩ := @heed_same (L.post e)
        rw [e1] at hturn ⊢
        exact ⟨(h.ok.post (by omega) (by omega) (by omega) he).heed, by rw [s3, q3]; exact h.n, by rw [s2]; omega, by rw [s1]; omega, hturn, heed_low⟩
  · have e1 : L.write e = L := by unfold LS.write; rw [if_neg hg]
    rw [e1]; exact h.more
theorem Fit.balance {L : LS} {t nT : Nat} (h : Fit L t nT) (ht : t ≤ 30) (hn : nT ≤ 60) : Fit L.balance (t + 1) nT := by
  have hr := h.round
  have hp := h.posts
  have htn := h.turns
  have hw := balance_turns L
  have hlen := h.ok.len
  have hnn := h.n
  have hturn : L.balance.D.turns ≤ 1000 + 1000 * (t + 1) := by omega
  by_cases hlo : L.lost = true
  · have e1 : L.balance = L := by unfold LS.balance; rw [if_pos hlo]
    rw [e1]; exact h.more
  · have e1 : L.balance = L.balanced.heed := by unfold LS.balance; rw [if_neg hlo]
    obtain ⟨s1, s2, s3⟩ := @heed_same L.balanced
    have b1 := @balanced_posts L
    have b2 := @balanced_round L
    have b3 : L.balanced.D.T.length = L.D.T.length := by
      unfold LS.balanced
      split
      · exact DS.step_len _ _
      · rw [next_len]; exact DS.step_len _ _
    rw [e1] at hturn ⊢
    exact ⟨(h.ok.balanced (by omega)).heed, by rw [s3, b3]; exact h.n, by rw [s2]; omega, by rw [s1]; omega, hturn, heed_low⟩
theorem Fit.settle {L : LS} {t nT : Nat} (h : Fit L t nT) : Fit L.settle (t + 1) nT := by
  have hw := settle_turns L
  have htn := h.turns
  have hturn : L.settle.D.turns ≤ 1000 + 1000 * (t + 1) := by omega
  by_cases hlo : L.lost = true
  · have e1 : L.settle = L := by unfold LS.settle; rw [if_pos hlo]
    rw [e1]; exact h.more
  · have e1 : L.settle = { L with D := L.D.step .settle : LS }.heed := by unfold LS.settle; rw [if_neg hlo]
    obtain ⟨s1, s2, s3⟩ := @heed_same { L with D := L.D.step .settle : LS }
    have hr := h.round
    have hp := h.posts
    rw [e1] at hturn ⊢
    exact ⟨(h.ok.turn .settle).heed, by rw [s3]; show (L.D.step .settle).T.length = nT; rw [DS.step_len]; exact h.n, by rw [s2]; show L.round ≤ _; omega, by rw [s1]; show L.posts ≤ _; omega, hturn, heed_low⟩
theorem Fit.brk {L : LS} {t nT : Nat} (h : Fit L t nT) (o : Option Nat) : Fit { L with D := L.D.brk o } (t + 1) nT :=
  ⟨⟨h.ok.len, h.ok.leaves, h.ok.home, h.ok.few, h.ok.laid, h.ok.round, h.ok.posts, h.ok.trk⟩, h.n, by have := h.round; show L.round ≤ _; omega, by have := h.posts; show L.posts ≤ _; omega, by have := h.turns; show L.D.turns ≤ _; omega, h.low⟩
/-- One that was opened. -/
theorem Fit.opened {D : DS} {k t nT : Nat} (hc : coverK D = some k) (ok : D.Ok) (hd : (openL D k).D.down = false) (hn : D.T.length = nT) (hn2 : nT ≤ 60) (ht : D.turns + 100 ≤ 1000 + 1000 * t) : Fit (openL D k) t nT := by
  have hoc := counted_ok hc ok
  have hr : roundC (D.seen.getD k []) < 4294967296 := by
    refine num_lt (fun x hx => ?_) 4
    rcases Nat.lt_or_ge k D.seen.length with q | q
    · obtain ⟨y, hy⟩ := get_of_lt q
      rw [getD_of hy] at hx
      exact (DS.seen_trk ok y (mem_of_get hy)).byte x hx
    · rw [List.getD_eq_getElem?_getD, List.getElem?_eq_none q] at hx
      cases hx
  have hrr : (LS.counted D k).reads.round = roundC (D.seen.getD k []) := rfl
  have hO : (openL D k).Ok := hoc.reads.next (by rw [hrr]; omega)
  have hT : (openL D k).D.T.length = nT := by
    show (LS.counted D k).reads.next.D.T.length = nT
    rw [next_len]
    exact hn
  have hdn : ((LS.counted D k).reads.D.run (LS.counted D k).reads.nextT).down = false := by rw [← next_D]; exact hd
  have hup := next_up hdn
  have htn : (openL D k).D.turns ≤ D.turns + D.T.length + 3 := openL_turns
  have hrd := next_round (LS.counted D k).reads
  refine ⟨⟨hO.len, hO.leaves, hO.home, by omega, hO.laid, hO.round, hO.posts, ?_⟩, hT, ?_, ?_, by omega, fun q => by rw [hd] at q; cases q⟩
  · show ∀ (k' : Nat) (b : List Nat), (LS.counted D k).reads.next.ws[k']? = some (some b) → Trk b
    rw [hup]
    exact none_trk _
  · show (LS.counted D k).reads.next.round ≤ _
    rw [hrr] at hrd
    omega
  · show (LS.counted D k).reads.next.posts ≤ _
    rw [hup]
    exact Nat.zero_le _
end Go.Proofs.YtmingbgohdhajaaGreat
