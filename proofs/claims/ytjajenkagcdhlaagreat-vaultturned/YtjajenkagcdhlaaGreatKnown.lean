/- A ledger that is founded and opened. -/
import Derived.Test.YtjajenkagcdhlaaGreatOpenW
namespace Go.Proofs.YtjajenkagcdhlaaGreat
open Go.RowKit
set_option maxRecDepth 100000

/-- A drum that is founded. -/
def newD (n l : Nat) : DS := (DS.new n).run (foundT l)
def newL (n l : Nat) : LS := openL (newD n l) 1
structure Founds (n l : Nat) : Prop where
  few : 10 ≤ n
  many : n ≤ 4096
  fits : fits l n = true
  bad : (newD n l).bad = 0
  cover : coverK (newD n l) = some 1
  opens : openE (newD n l) = 0

/-- One entry, in a row of its own. -/
theorem Ents.one {w : World} {g k c : Nat} {p : Option Addr} {xs : List Nat} {n : Nat} (hn : xs.length = n) (hb : Blk w g 115 [.int .i64 (k : Int), .slice p n c]) (hc : n ≤ c) (B : Byt w p xs) : Ents w (some ⟨g, 0, none⟩) [(k, xs)] :=
  ⟨fun i x hx => by
    match i, hx with
    | 0, hx =>
      injection hx with hx
      subst hx
      exact ⟨g, 0, p, c, rfl, hb.cell 0, by rw [hn]; exact hb.cell 1, by rw [hn]; exact hc, B⟩
    | i + 1, hx => simp at hx, fun g' o e => by cases e; exact ⟨_, hb⟩⟩
theorem Blk.byt {w : World} {g : Nat} {xs : List Nat} (ht : Trk xs) (h : Blk w g 5 (cells xs)) : Byt w (some ⟨g, 0, none⟩) xs := (Own.of_blk ht.byte h).byt
end Go.Proofs.YtjajenkagcdhlaaGreat
