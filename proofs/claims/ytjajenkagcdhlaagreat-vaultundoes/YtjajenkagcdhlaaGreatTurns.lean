/- How many turns a Write, an Open, a Settle, a Balance take. -/
import Derived.Test.YtjajenkagcdhlaaGreatNewL
namespace Go.Proofs.YtjajenkagcdhlaaGreat
open Go.RowKit
set_option maxRecDepth 100000

theorem layP_turns (L : LS) (e : List Ent) : (L.layP e).D.turns ≤ L.D.turns + leavesOf e.length := by
  have h1 := DS.run_turns L.D (leafT (2 + L.laid) (posting L.round (L.posts + 1) e))
  rw [leafT_length, posting_length] at h1
  unfold LS.layP
  simp only
  split
  · exact h1
  · exact h1
theorem post_turns (L : LS) (e : List Ent) : (L.post e).D.turns ≤ L.D.turns + L.ws.length + 4 + leavesOf e.length := by
  have h1 := balanced_turns L
  have h2 := layP_turns L.balanced e
  have h3 := layP_turns L e
  unfold LS.post
  split
  · split
    · omega
    · omega
  · omega
theorem heed_turns (L : LS) : L.heed.D = L.D := by unfold LS.heed; split <;> rfl
theorem write_turns (L : LS) (e : List Ent) : (L.write e).D.turns ≤ L.D.turns + L.ws.length + 4 + leavesOf e.length := by
  have h1 := post_turns L e
  unfold LS.write
  split
  · split
    · omega
    · split
      · omega
      · rw [heed_turns]; exact h1
  · omega
theorem openL_turns {D : DS} {k : Nat} : (openL D k).D.turns ≤ D.turns + D.T.length + 3 := by
  have h2 := next_turns (LS.counted D k).reads
  have h3 : (LS.counted D k).reads.ws.length ≤ D.T.length := by
    show (readAll _ _ _ _ _ _).length ≤ _
    rw [readAll_length]
    show (List.replicate _ none).length ≤ _
    rw [List.length_replicate]
    omega
  have h4 : (LS.counted D k).reads.D = D := rfl
  rw [h4] at h2
  show (LS.counted D k).reads.next.D.turns ≤ _
  omega
theorem settle_turns (L : LS) : L.settle.D.turns ≤ L.D.turns + 1 := by
  have := DS.step_turns L.D .settle
  unfold LS.settle
  split
  · omega
  · rw [heed_turns]; exact this
theorem balance_turns (L : LS) : L.balance.D.turns ≤ L.D.turns + L.ws.length + 4 := by
  have := balanced_turns L
  unfold LS.balance
  split
  · omega
  · rw [heed_turns]; exact this
end Go.Proofs.YtjajenkagcdhlaaGreat
