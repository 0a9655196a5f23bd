/- Bytes in memory: what a slice of bytes has; what stays of it. -/
import Derived.Test.YtdfodmnjgpgojaaDoorBase
namespace Go.Proofs.YtdfodmnjgpgojaaDoor
open Go.RowKit
set_option maxRecDepth 100000

/-- Place k of xs; behind its end 0. -/
def at0 (xs : List Nat) (k : Nat) : Nat := xs.getD k 0

theorem at0_lt {xs : List Nat} (h : ∀ x ∈ xs, x < 256) (k : Nat) : at0 xs k < 256 := by
  unfold at0
  rcases Nat.lt_or_ge k xs.length with hk | hk
  · rw [List.getD_eq_getElem?_getD, List.getElem?_eq_getElem hk]; exact h _ (List.getElem_mem hk)
  · rw [List.getD_eq_getElem?_getD, List.getElem?_eq_none hk]; decide

/-- The slice whose cells begin at a has the bytes xs. -/
structure Has (w : World) (a : Option Addr) (xs : List Nat) : Prop where
  byte : ∀ x ∈ xs, x < 256
  cell : ∀ i, i < xs.length → ∃ b off, a = some ⟨b, off, none⟩ ∧ w.cell? ⟨b, off + i, none⟩ = some (.int .u8 (at0 xs i : Int))

theorem Has.nil (w : World) (a : Option Addr) : Has w a [] := ⟨(fun _ h => by cases h), fun i hi => absurd hi (Nat.not_lt_zero _)⟩
theorem Has.touch {S : Nat → Prop} {w w' : World} {a : Option Addr} {xs : List Nat} (h : Has w a xs) (m : Touch S w w') (hn : ∀ b o, a = some ⟨b, o, none⟩ → ¬ S b) : Has w' a xs :=
  ⟨h.byte, fun i hi => by
    obtain ⟨b, off, rfl, hc⟩ := h.cell i hi
    exact ⟨b, off, rfl, (m.cell (p := ⟨b, off + i, none⟩) (lt_of_cell? hc) (hn b off rfl)).trans hc⟩⟩
/-- Nothing old turned. -/
abbrev Old (w w' : World) : Prop := Touch (fun _ => False) w w'
theorem Has.old {w w' : World} {a : Option Addr} {xs : List Nat} (h : Has w a xs) (m : Old w w') : Has w' a xs := h.touch m (fun _ _ _ h => h)

theorem at0_drop (xs : List Nat) (k i : Nat) : at0 (xs.drop k) i = at0 xs (k + i) := by simp [at0, List.getD_eq_getElem?_getD, List.getElem?_drop]
theorem at0_take {xs : List Nat} {k i : Nat} (h : i < k) : at0 (xs.take k) i = at0 xs i := by simp [at0, List.getD_eq_getElem?_getD, h]

/-- A run of the bytes. -/
theorem Has.part {w : World} {b off : Nat} {xs : List Nat} (h : Has w (some ⟨b, off, none⟩) xs) (k n : Nat) : Has w (some ⟨b, off + k, none⟩) ((xs.drop k).take n) :=
  ⟨fun x hx => h.byte x (List.mem_of_mem_drop (List.mem_of_mem_take hx)), fun i hi => by
    have hi' : i < n ∧ i < xs.length - k := by simp at hi; omega
    obtain ⟨b', off', e, hc⟩ := h.cell (k + i) (by omega)
    cases e
    refine ⟨b, off + k, rfl, ?_⟩
    rw [at0_take hi'.1, at0_drop, Nat.add_assoc]
    exact hc⟩
theorem Has.take {w : World} {a : Option Addr} {xs : List Nat} (h : Has w a xs) (n : Nat) : Has w a (xs.take n) :=
  ⟨fun x hx => h.byte x (List.mem_of_mem_take hx), fun i hi => by
    have hi' : i < n ∧ i < xs.length := by simp at hi; omega
    obtain ⟨b, off, e, hc⟩ := h.cell i hi'.2
    exact ⟨b, off, e, by rw [at0_take hi'.1]; exact hc⟩⟩

end Go.Proofs.YtdfodmnjgpgojaaDoor
