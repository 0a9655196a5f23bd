/- Bytes as text; what a track says; new rows. -/
import Derived.Test.YtgbgknjfbjmhgaaTrack
import Derived.Laws.BytesArg
import Derived.Lib.SlBytesConst
namespace Go.Proofs.Ytgbgknjfbjmhgaa
open Go.RowKit

/-- The text of bytes. -/
def strOf (xs : List Nat) : ByteArray := strOfNums (xs.map fun (x : Nat) => (x : Int))

theorem strOf_inj {xs ys : List Nat} (hx : ∀ x ∈ xs, x < 256) (hy : ∀ x ∈ ys, x < 256) (h : strOf xs = strOf ys) : xs = ys := by
  have h1 : (strOf xs).data.toList = (strOf ys).data.toList := by rw [h]
  unfold strOf at h1
  rw [strOfNums_data, strOfNums_data, List.map_map, List.map_map] at h1
  have back : ∀ zs : List Nat, (∀ x ∈ zs, x < 256) → (zs.map ((fun (n : Int) => UInt8.ofNat n.toNat) ∘ fun (x : Nat) => (x : Int))).map UInt8.toNat = zs := fun zs hz => by
    rw [List.map_map]
    conv => rhs; rw [← List.map_id zs]
    apply List.map_congr_left
    intro x hx
    have := hz x hx
    simp
    omega
  rw [← back xs hx, ← back ys hy, h1]

theorem str_any (w : World) (a : Option Addr) (xs : List Nat) (len cap : Nat) (h : Has w a xs) (hlen : xs.length = len) :
    (convert 25 9 (.slice a len cap)).run Try.prog w = .ok (.string (strOf xs)) w := by
  cases a with
  | none =>
    have : xs = [] := by
      match xs, h with
      | [], _ => rfl
      | x :: r, h => obtain ⟨_, _, e, _⟩ := h.cell 0 (by simp); cases e
    subst this
    rw [run_convert_bytes_nil w 25 5 Try.underlying25 Try.underlying5 len cap 9 Try.underlying9]
    rfl
  | some a =>
    match xs, h, hlen with
    | [], _, hlen =>
      simp at hlen
      subst hlen
      rw [run_convert_bytes_string w 25 9 5 _ 0 cap Try.underlying25 Try.underlying5 Try.underlying9, run_bytesToString w a 0 cap [] (by rfl)]
      rfl
    | x :: r, h, hlen =>
      obtain ⟨b, off, e, _⟩ := h.cell 0 (by simp)
      cases e
      refine run_convert_bytes_arg w 25 5 Try.underlying25 Try.underlying5 b off len cap ((x :: r).map fun (x : Nat) => (x : Int)) (by simpa using hlen) (fun i hi => ?_) 9 Try.underlying9
      obtain ⟨b', off', e, hc⟩ := h.cell i (by omega)
      cases e
      rw [hc]
      have hi' : i < (x :: r).length := by omega
      simp only [at0, List.getD_eq_getElem?_getD, List.getElem?_map, List.getElem?_eq_getElem hi', Option.map_some, Option.getD_some]

/-- A new row. -/
theorem Has.new (w : World) (xs : List Nat) (hb : ∀ x ∈ xs, x < 256) (fr : Nat × Nat) : Has (w.alloc (.cells (cells xs).toArray 5 fr)) (some ⟨w.heap.size, 0, none⟩) xs :=
  ⟨hb, fun i hi => ⟨w.heap.size, 0, rfl, by
    unfold World.cell?
    rw [show (w.alloc (.cells (cells xs).toArray 5 fr)).heap = w.heap.push (.cells (cells xs).toArray 5 fr) from rfl]
    simp only [Nat.zero_add, Array.getElem?_push_size]
    rw [List.getElem?_toArray]
    exact cells_get xs i hi⟩⟩

theorem num_digits (n : Nat) (h : n < 281474976710656) : num (digits n) 6 = n := by
  simp only [num, digits, at0, List.getD_cons_zero, List.getD_cons_succ]
  omega

theorem track_take {xs : List Nat} (h : xs.length ≤ 84) : (track xs).take 84 = body xs := by
  unfold track
  rw [List.take_append_of_le_length (by rw [body_length h]; exact Nat.le_refl _), List.take_of_length_le (by rw [body_length h]; exact Nat.le_refl _)]
theorem six_84 (B : List Nat) (m n : Nat) (h : B.length = 84) : six (B ++ (digits m ++ digits n)) 84 = num (digits m) 6 := by
  unfold six
  rw [← h, List.drop_left]
  rfl
theorem six_90 (B : List Nat) (m n : Nat) (h : B.length = 84) : six (B ++ (digits m ++ digits n)) 90 = num (digits n) 6 := by
  unfold six
  rw [← List.append_assoc, show 90 = (B ++ digits m).length by simp [digits, h], List.drop_left]
  rfl
theorem right_track {xs : List Nat} (h : xs.length ≤ 84) : right (track xs) := by
  unfold right
  rw [track_take h]
  unfold track
  rw [six_84 _ _ _ (body_length h), six_90 _ _ _ (body_length h), num_digits _ (sum1_lt _), num_digits _ (sum2_lt _)]
  exact ⟨rfl, rfl⟩
theorem body_byte {xs : List Nat} (h : ∀ x ∈ xs, x < 256) : ∀ x ∈ body xs, x < 256 := fun x hx => by
  rcases List.mem_append.1 hx with h1 | h1
  · exact h x h1
  · exact zeros_byte _ x h1
theorem track_byte {xs : List Nat} (h : ∀ x ∈ xs, x < 256) : ∀ x ∈ track xs, x < 256 := fun x hx => by
  rcases List.mem_append.1 hx with h1 | h1
  · exact body_byte h x h1
  · rcases List.mem_append.1 h1 with h2 | h2
    · exact digits_byte _ x h2
    · exact digits_byte _ x h2
end Go.Proofs.Ytgbgknjfbjmhgaa
