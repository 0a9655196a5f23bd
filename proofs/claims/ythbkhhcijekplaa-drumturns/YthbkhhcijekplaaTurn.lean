/- Turns that came in: a slice of structs of four numbers, bytes and numbers. -/
import Derived.Test.YthbkhhcijekplaaMarked
namespace Go.Proofs.Ythbkhhcijekplaa
open Go.RowKit

/-- A turn as it was handed in. -/
structure TurnR where
  what : Int
  k : Int
  n : Int
  cut : Int
  ba : Option Addr
  bl : Nat
  bc : Nat
  bs : List Nat
  ka : Option Addr
  kl : Nat
  kc : Nat
  ks : List Int

structure TurnAt (w : World) (b off : Nat) (r : TurnR) : Prop where
  c0 : w.cell? ⟨b, off, none⟩ = some (.int .i64 r.what)
  c1 : w.cell? ⟨b, off + 1, none⟩ = some (.int .i64 r.k)
  c2 : w.cell? ⟨b, off + 2, none⟩ = some (.int .i64 r.n)
  c3 : w.cell? ⟨b, off + 3, none⟩ = some (.int .i64 r.cut)
  c4 : w.cell? ⟨b, off + 4, none⟩ = some (.slice r.ba r.bl r.bc)
  c5 : w.cell? ⟨b, off + 5, none⟩ = some (.slice r.ka r.kl r.kc)
  bytes : Has w r.ba r.bs
  blen : r.bs.length = r.bl
  keep : HasI w r.ka r.ks
  klen : r.ks.length = r.kl
  small : r.bl ≤ 140737488351232 ∧ r.kl ≤ 140737488351232

theorem TurnAt.old {w w' : World} {b off : Nat} {r : TurnR} (h : TurnAt w b off r) (m : Old w w') : TurnAt w' b off r := by
  have hb := lt_of_cell? h.c0
  have c : ∀ o, w'.cell? ⟨b, o, none⟩ = w.cell? ⟨b, o, none⟩ := fun o => m.cell (p := ⟨b, o, none⟩) hb (fun q => q)
  exact ⟨(c _).trans h.c0, (c _).trans h.c1, (c _).trans h.c2, (c _).trans h.c3, (c _).trans h.c4, (c _).trans h.c5, h.bytes.old m, h.blen, h.keep.old m, h.klen, h.small⟩

/-- The slice whose cells begin at a has n turns. -/
def HasT (w : World) (a : Option Addr) (n : Nat) : Prop := ∀ i, i < n → ∃ b off r, a = some ⟨b, off, none⟩ ∧ TurnAt w b (off + i * 6) r
theorem HasT.old {w w' : World} {a : Option Addr} {n : Nat} (h : HasT w a n) (m : Old w w') : HasT w' a n := fun i hi => by
  obtain ⟨b, off, r, e, ht⟩ := h i hi
  exact ⟨b, off, r, e, ht.old m⟩
end Go.Proofs.Ythbkhhcijekplaa
