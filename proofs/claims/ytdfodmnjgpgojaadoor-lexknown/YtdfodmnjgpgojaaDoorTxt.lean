/- Bytes as text. -/
import Derived.Test.YtdfodmnjgpgojaaDoorTks
import Derived.Laws.BytesArg
import Derived.Lib.SlBytesConst
namespace Go.Proofs.YtdfodmnjgpgojaaDoor
open Go.RowKit
set_option maxRecDepth 100000

/-- The text of bytes. -/
def strOf (xs : List Nat) : ByteArray := strOfNums (xs.map fun (x : Nat) => (x : Int))

theorem strOf_inj {xs ys : List Nat} (hx : ∀ x ∈ xs, x < 256) (hy : ∀ x ∈ ys, x < 256) (h : strOf xs = strOf ys) : xs = ys := by
  have h1 : (strOf xs).data.toList = (strOf ys).data.toList := by rw [h]
  unfold strOf at h1
  rw [strOfNums_data, strOfNums_data, List.map_map, List.map_map] at h1
  have back : ∀ zs : List Nat, (∀ x ∈ zs, x < 256) → (zs.map ((fun (n : Int) => UInt8.ofNat n.toNat) ∘ fun (x : Nat) => (x : Int))).map UInt8.toNat = zs := fun zs hz => by
    rw [List.map_map]
    conv => rhs; rw [← List.map_id zs]
    apply List.map_congr_left
    intro x hx
    have := hz x hx
    simp
    omega
  rw [← back xs hx, ← back ys hy, h1]

theorem str_any (w : World) (a : Option Addr) (xs : List Nat) (len cap : Nat) (h : Has w a xs) (hlen : xs.length = len) :
    (convert 27 9 (.slice a len cap)).run Tryd.prog w = .ok (.string (strOf xs)) w := by
  cases a with
  | none =>
    have : xs = [] := by
      match xs, h with
      | [], _ => rfl
      | x :: r, h => obtain ⟨_, _, e, _⟩ := h.cell 0 (by simp); cases e
    subst this
    rw [run_convert_bytes_nil w 27 5 Tryd.underlying27 Tryd.underlying5 len cap 9 Tryd.underlying9]
    rfl
  | some a =>
    match xs, h, hlen with
    | [], _, hlen =>
      simp at hlen
      subst hlen
      rw [run_convert_bytes_string w 27 9 5 _ 0 cap Tryd.underlying27 Tryd.underlying5 Tryd.underlying9, run_bytesToString w a 0 cap [] (by rfl)]
      rfl
    | x :: r, h, hlen =>
      obtain ⟨b, off, e, _⟩ := h.cell 0 (by simp)
      cases e
      refine run_convert_bytes_arg w 27 5 Tryd.underlying27 Tryd.underlying5 b off len cap ((x :: r).map fun (x : Nat) => (x : Int)) (by simpa using hlen) (fun i hi => ?_) 9 Tryd.underlying9
      obtain ⟨b', off', e, hc⟩ := h.cell i (by omega)
      cases e
      rw [hc]
      have hi' : i < (x :: r).length := by omega
      simp only [at0, List.getD_eq_getElem?_getD, List.getElem?_map, List.getElem?_eq_getElem hi', Option.map_some, Option.getD_some]

/-- A new row. -/
theorem Has.new (w : World) (xs : List Nat) (hb : ∀ x ∈ xs, x < 256) (fr : Nat × Nat) : Has (w.alloc (.cells (cells xs).toArray 5 fr)) (some ⟨w.heap.size, 0, none⟩) xs :=
  ⟨hb, fun i hi => ⟨w.heap.size, 0, rfl, by
    unfold World.cell?
    rw [show (w.alloc (.cells (cells xs).toArray 5 fr)).heap = w.heap.push (.cells (cells xs).toArray 5 fr) from rfl]
    simp only [Nat.zero_add, Array.getElem?_push_size]
    rw [List.getElem?_toArray]
    exact cells_get xs i hi⟩⟩
theorem strOf_data (xs : List Nat) : (strOf xs).data.toList = xs.map fun (x : Nat) => UInt8.ofNat x := by
  unfold strOf
  rw [strOfNums_data, List.map_map]
  apply List.map_congr_left
  intro x _
  simp
theorem strOf_size (xs : List Nat) : (strOf xs).size = xs.length := by
  have := congrArg List.length (strOf_data xs)
  simpa using this
end Go.Proofs.YtdfodmnjgpgojaaDoor
