/- Arguments that came in, opened for the walks: slices of integers, slices of turns. -/
import Derived.Test.YtmgobnbpmjcicaaRows
import Derived.Test.YtmgobnbpmjcicaaObjs
import Derived.WalkKit
import Derived.ProofKit
import Derived.OpenShut
import Derived.ShutString
import Derived.ChangeOld
import Derived.Deep.Slices
namespace Go.Proofs.Ytmgobnbpmjcicaa
open Go.ChangeShapes Go.WideShapes Go.ChangeAt Go.RowKit

theorem own : ownKnob Try.prog.godebug = none := by kernel_rfl
theorem laidOut : laidOutB Try.prog = true := by kernel_rfl

theorem fits_of_wf {n : Int} (h : (Lit.int .i64 n).wf = true) : Fits n := by
  simp [Lit.wf, IntKind.min, IntKind.max, IntKind.signed, IntKind.bits] at h
  exact ⟨by omega, by omega⟩

/-- A slice of integers: its cells lie in a block that was there. -/
def IntRow (w : World) (a : Option Addr) (len : Nat) (q : Nat → Int) : Prop :=
  ∀ i, i < len → ∃ b off, a = some ⟨b, off, none⟩ ∧ b < w.heap.size ∧ w.cell? ⟨b, off + i, none⟩ = some (.int .i64 (q i)) ∧ Fits (q i)

/-- A slice of turns. -/
def TurnRow (w : World) (a : Option Addr) (len : Nat) (q r : Nat → Int) : Prop :=
  ∀ i, i < len → ∃ b off, a = some ⟨b, off, none⟩ ∧ b < w.heap.size ∧ w.cell? ⟨b, off + i * 2, none⟩ = some (.int .i64 (q i)) ∧ w.cell? ⟨b, off + i * 2 + 1, none⟩ = some (.int .i64 (r i))

theorem ints_open {H : Type} {enc : TypeId × Value → H} {W : World} {a : Option Addr} {len cap : Nat} {d : DataW H} {p : List MemPlace}
    (h : DataW.Trod enc Try.prog W 0 (fun _ => true) true 48 (.slice a len cap) d p) : ∃ q, IntRow W a len q := by
  obtain ⟨fuel, hf⟩ := h
  have h1 : Try.prog.cellsOf 3 = 1 := by kernel_rfl
  rcases Deep.open_slice Try.underlying48 hf with ⟨hcs, _⟩ | ⟨x, l, c, m, n, D, Pl, hcs, _, hl, _, hm, _, hcell⟩
  · simp [Value.cells] at hcs
    obtain ⟨rfl, rfl, rfl⟩ := hcs
    exact ⟨fun _ => 0, fun i hi => absurd hi (by omega)⟩
  · simp [Value.cells] at hcs
    obtain ⟨rfl, rfl, rfl⟩ := hcs
    have hm' : m = cap := by simpa using hm
    rw [h1] at hcell
    have hone : ∀ i, i < len → ∃ q : Int, W.cell? (x.add i) = some (.int .i64 q) ∧ Fits q := fun i hi => by
      obtain ⟨cs, h1, h2⟩ := hcell i (by omega)
      obtain ⟨q, rfl, _, hq⟩ := DataW.trod_int Try.underlying3 h2
      obtain ⟨_, _, h3⟩ := World.cells?_some h1
      have h4 := h3 0 (by omega)
      rw [Deep.add_add, Nat.mul_one, Nat.add_zero] at h4
      exact ⟨q, h4, fits_of_wf hq⟩
    obtain ⟨q, hq⟩ := Deep.choose_lt hone
    refine ⟨q, fun i hi => ?_⟩
    obtain ⟨b, off, spot⟩ := x
    have hspot : spot = none := by
      have h0 := (hq 0 (by omega)).1
      simpa [Addr.add] using World.cell?_spot h0
    subst hspot
    obtain ⟨hc, hfit⟩ := hq i hi
    simp only [add_plain] at hc
    exact ⟨b, off, rfl, by have := lt_of_cell? hc; simpa using this, hc, hfit⟩

/-- One turn's two cells. -/
theorem turn_cells {H : Type} {enc : TypeId × Value → H} {W : World} {n : Nat} {cs : List Value} {x : DataW H × List MemPlace}
    (h : DataW.trod enc Try.prog W 0 (fun _ => true) true n 45 cs = some x) : ∃ q r : Int, cs = [.int .i64 q, .int .i64 r] := by
  obtain ⟨xs, m, _, _, hl, hx, hf⟩ := DataW.trod_struct Try.underlying45 h
  have h45 : Try.prog.cellsOf 45 = 2 := by kernel_rfl
  have hx' : xs.length = 2 := hx
  rw [h45] at hl
  match cs, hl with
  | [c0, c1], _ =>
    match xs, hx' with
    | [y0, y1], _ =>
      have f0 := hf 0 _ rfl
      have f1 := hf 1 _ rfl
      simp only [List.getElem?_cons_zero, List.getElem?_cons_succ] at f0 f1
      obtain ⟨n0, e0, _, _⟩ := DataW.trod_int Try.underlying3 f0
      obtain ⟨n1, e1, _, _⟩ := DataW.trod_int Try.underlying3 f1
      cases e0; cases e1
      exact ⟨n0, n1, rfl⟩

theorem turns_open {H : Type} {enc : TypeId × Value → H} {W : World} {a : Option Addr} {len cap : Nat} {d : DataW H} {p : List MemPlace}
    (h : DataW.Trod enc Try.prog W 0 (fun _ => true) true 43 (.slice a len cap) d p) : ∃ q r, TurnRow W a len q r := by
  obtain ⟨fuel, hf⟩ := h
  have h45 : Try.prog.cellsOf 45 = 2 := by kernel_rfl
  rcases Deep.open_slice Try.underlying43 hf with ⟨hcs, _⟩ | ⟨x, l, c, m, n, D, Pl, hcs, _, hl, _, hm, _, hcell⟩
  · simp [Value.cells] at hcs
    obtain ⟨rfl, rfl, rfl⟩ := hcs
    exact ⟨fun _ => 0, fun _ => 0, fun i hi => absurd hi (by omega)⟩
  · simp [Value.cells] at hcs
    obtain ⟨rfl, rfl, rfl⟩ := hcs
    have hm' : m = cap := by simpa using hm
    rw [h45] at hcell
    have hone : ∀ i, i < len → ∃ q : Int × Int, W.cell? (x.add (i * 2)) = some (.int .i64 q.1) ∧ W.cell? (x.add (i * 2 + 1)) = some (.int .i64 q.2) := fun i hi => by
      obtain ⟨cs, h1, h2⟩ := hcell i (by omega)
      obtain ⟨q, r, rfl⟩ := turn_cells h2
      obtain ⟨_, _, h3⟩ := World.cells?_some h1
      have h4 := h3 0 (by omega)
      have h5 := h3 1 (by omega)
      rw [Deep.add_add] at h4 h5
      exact ⟨(q, r), h4, h5⟩
    obtain ⟨q, hq⟩ := Deep.choose_lt hone
    refine ⟨fun i => (q i).1, fun i => (q i).2, fun i hi => ?_⟩
    obtain ⟨b, off, spot⟩ := x
    have hspot : spot = none := by
      have h0 := (hq 0 (by omega)).1
      simpa [Addr.add] using World.cell?_spot h0
    subst hspot
    obtain ⟨hc, hd⟩ := hq i hi
    simp only [add_plain, ← Nat.add_assoc] at hc hd
    exact ⟨b, off, rfl, by have := lt_of_cell? hc; simpa using this, hc, hd⟩
end Go.Proofs.Ytmgobnbpmjcicaa
