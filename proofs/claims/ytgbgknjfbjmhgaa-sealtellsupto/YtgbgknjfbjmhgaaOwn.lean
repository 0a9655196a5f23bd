/- Rows of bytes that a call itself made: written, made; the contract of layNumber. -/
import Derived.Test.YtgbgknjfbjmhgaaSums
import Derived.Laws.AppendOwn
import Derived.Laws.MakeOwn
import Derived.Laws.Tables
namespace Go.Proofs.Ytgbgknjfbjmhgaa
open Go.RowKit

def cells (xs : List Nat) : List Value := xs.map fun (x : Nat) => Value.int .u8 (x : Int)
theorem cells_length (xs : List Nat) : (cells xs).length = xs.length := by simp [cells]
theorem cells_append (xs ys : List Nat) : cells (xs ++ ys) = cells xs ++ cells ys := by simp [cells]
theorem cells_get (xs : List Nat) (i : Nat) (h : i < xs.length) : (cells xs)[i]? = some (.int .u8 (at0 xs i : Int)) := by
  simp [cells, at0, List.getD_eq_getElem?_getD, List.getElem?_eq_getElem h]
theorem cells_one (xs : List Nat) : ∀ v ∈ cells xs, v.oneCell' = true := fun v hv => by
  obtain ⟨x, _, rfl⟩ := List.mem_map.1 hv
  rfl

/-- Block g is a row of bytes; it begins with xs. -/
structure Own (w : World) (g : Nat) (xs : List Nat) : Prop where
  byte : ∀ x ∈ xs, x < 256
  row : ∃ rest, w.heap[g]? = some (.cells (cells xs ++ rest).toArray 5 (0, 0))

theorem Own.lt {w : World} {g : Nat} {xs : List Nat} (h : Own w g xs) : g < w.heap.size := by
  obtain ⟨rest, hg⟩ := h.row
  exact (Array.getElem?_eq_some_iff.1 hg).1
theorem Own.cell {w : World} {g : Nat} {xs : List Nat} (h : Own w g xs) (i : Nat) (hi : i < xs.length) : w.cell? ⟨g, i, none⟩ = some (.int .u8 (at0 xs i : Int)) := by
  obtain ⟨rest, hg⟩ := h.row
  unfold World.cell?
  simp only [hg]
  rw [List.getElem?_toArray, List.getElem?_append_left (by rw [cells_length]; exact hi)]
  exact cells_get xs i hi
theorem Own.frozen {w : World} {g : Nat} {xs : List Nat} (h : Own w g xs) (i : Nat) : w.frozen? ⟨g, i, none⟩ = false := by
  obtain ⟨rest, hg⟩ := h.row
  unfold World.frozen?
  simp [hg]
theorem Own.has {w : World} {g : Nat} {xs : List Nat} (h : Own w g xs) : Has w (some ⟨g, 0, none⟩) xs :=
  ⟨h.byte, fun i hi => ⟨g, 0, rfl, by rw [Nat.zero_add]; exact h.cell i hi⟩⟩
theorem Own.touch {S : Nat → Prop} {w w' : World} {g : Nat} {xs : List Nat} (h : Own w g xs) (m : Touch S w w') (hn : ¬ S g) : Own w' g xs := by
  obtain ⟨rest, hg⟩ := h.row
  exact ⟨h.byte, rest, by rw [m.block g h.lt hn]; exact hg⟩
theorem Own.old {w w' : World} {g : Nat} {xs : List Nat} (h : Own w g xs) (m : Old w w') : Own w' g xs := h.touch m (fun h => h)
theorem Own.set {w : World} {g : Nat} {xs : List Nat} (h : Own w g xs) (i x : Nat) (hi : i < xs.length) (hx : x < 256) : Own (w.setCell ⟨g, i, none⟩ (.int .u8 (x : Int))) g (xs.set i x) := by
  obtain ⟨rest, hg⟩ := h.row
  refine ⟨fun y hy => ?_, rest, ?_⟩
  · rcases List.mem_or_eq_of_mem_set hy with h1 | rfl
    · exact h.byte y h1
    · exact hx
  · rw [setCell_eq_setRow w g i _ 5 (0, 0) _ hg, setRow_heap w g _ _ 5 (0, 0) hg]
    congr 2
    apply Array.ext'
    rw [Array.toList_setIfInBounds]
    simp only [cells, List.map_set]
    rw [List.set_append_left _ _ (by simpa using hi)]
theorem Own.new (w : World) (xs : List Nat) (hb : ∀ x ∈ xs, x < 256) : Own (w.alloc (.cells (cells xs).toArray 5)) w.heap.size xs :=
  ⟨hb, [], by rw [List.append_nil]; exact heap_alloc_new w _⟩

/-- So many 0s. -/
def zeros (n : Nat) : List Nat := List.replicate n 0
theorem zeros_byte (n : Nat) : ∀ x ∈ zeros n, x < 256 := fun x hx => by
  have := (List.mem_replicate.1 hx).2
  omega
theorem zeros_length (n : Nat) : (zeros n).length = n := by simp [zeros]

theorem info_parts {e : TypeId} {z : Value} {s b : Nat} (h : (Try.prog.info? e).map (fun i => (i.zero, i.size, i.bytes)) = some (some z, s, b)) : ∃ i : TypeInfo, Try.prog.info? e = some i ∧ i.zero = some z ∧ i.size = s ∧ i.bytes = b := by
  cases hi : Try.prog.info? e with
  | none => rw [hi] at h; cases h
  | some i => rw [hi] at h; simp at h; exact ⟨i, rfl, h.1, h.2.1, h.2.2⟩
theorem info5 : (Try.prog.info? 5).map (fun i => (i.zero, i.size, i.bytes)) = some (some (.int .u8 0), 1, 1) := by kernel_rfl

theorem made_zeros (n : Nat) : madeCells (Value.int .u8 0).cells n = (cells (zeros n)).toArray := by
  apply Array.ext'
  apply List.ext_getElem?
  intro i
  rcases Nat.lt_or_ge i n with h | h
  · simp only [madeCells, cells, zeros]
    simp [h, Value.cells, Nat.mod_one]
  · simp [madeCells, cells, zeros, Nat.not_lt.2 h]

theorem make_bytes (n : Nat) (hn : n ≤ 281474976710656) (w : World) : (Instr.makeSlice 25 (.int .i64 n) (.int .i64 n)).run Try.prog w = .ok (.slice (some ⟨w.heap.size, 0, none⟩) n n) (w.alloc (.cells (cells (zeros n)).toArray 5)) := by
  obtain ⟨i0, hi, hz0, hz1, hz2⟩ := info_parts info5
  have h := run_make (P := Try.prog) w 25 5 i0 (.int .u8 0) Try.underlying25 hi hz0 .i64 .i64 (n : Int) (n : Int) (by omega) (by omega) (by rw [hz2]; omega) (by omega)
  rw [hz1] at h
  rw [h, ← made_zeros]
  simp

/-- After t steps of layNumber: the last t of six places have their bytes. -/
def laid (xs : List Nat) (off n : Nat) : Nat → List Nat
  | 0 => xs
  | t + 1 => (laid xs off n t).set (off + (5 - t)) (n / 256 ^ t % 256)
theorem laid_length (xs : List Nat) (off n : Nat) : ∀ t, (laid xs off n t).length = xs.length
  | 0 => rfl
  | t + 1 => by rw [laid, List.length_set, laid_length xs off n t]

set_option maxRecDepth 100000 in
theorem lay_any (g off cap n : Nat) (xs : List Nat) (w : World) (h : Own w g xs) (hl : off + 6 ≤ xs.length) (_hn : n < 281474976710656) :
    Calls Try.prog 18 #[.slice (some ⟨g, off, none⟩) 6 cap, .int .i64 n] w fun e w' => e = .returned (.tuple #[]) ∧ Own w' g (laid xs off n 6) ∧ Touch (fun k => k = g) w w' := by
  have HH := Lib.hid h
  clear h
  go_enter Try.func18, Try.ntmps18
  go_wp2_with fail
  go_loopw [1, 4] (fun m i wx => ∃ t : Nat, t ≤ 6 ∧ i = .int .i64 (5 - (t : Int)) ∧ m = .int .i64 ((n / 256 ^ t : Nat) : Int) ∧ Hid (Own wx g (laid xs off n t)) ∧ Hid (Touch (fun k => k = g) w wx)) (fun _ i _ => (intOf i + 1).toNat)
  case atStart => exact ⟨0, by omega, rfl, by simp, HH, Touch.refl _ _⟩
  case round =>
    obtain ⟨t, ht, rfl, rfl, HO, HT⟩ := hrel
    clear HH
    have hle : n / 256 ^ t ≤ n := Nat.div_le_self _ _
    have hnext : n / 256 ^ t / 256 = n / 256 ^ (t + 1) := by rw [Nat.div_div_eq_div_mul, Nat.pow_succ]
    by_cases hlt : t < 6
    · have hidx : (5 - (t : Int)).toNat = 5 - t := by omega
      have h5 : ((5 - t : Nat) : Int) = 5 - (t : Int) := by omega
      have hc := HO.out.cell (off + (5 - t)) (by rw [laid_length]; omega)
      have hf := HO.out.frozen (off + (5 - t))
      have HO' := Lib.hid (HO.out.set (off + (5 - t)) (n / 256 ^ t % 256) (by rw [laid_length]; omega) (Nat.mod_lt _ (by decide)))
      have HL : Hid (laid xs off n (t + 1) = (laid xs off n t).set (off + (5 - t)) (n / 256 ^ t % 256)) := rfl
      clear HO
      generalize hq : n / 256 ^ t = q at *
      clear hq
      rw [← h5]
      go_wp2_with fail
      have hm : ((q : Nat) : Int) % 256 = ((q % 256 : Nat) : Int) := by omega
      rw [hm]
      refine ⟨⟨t + 1, by omega, by congr 1; omega, by rw [← hnext]; rfl, ?_, ?_⟩, by simp only [intOf]; omega⟩
      · rw [HL.out]; exact HO'
      · exact HT.out.setCell (.inl rfl) _
    · obtain rfl : t = 6 := by omega
      clear hnext hlt
      go_wp2_with fail
      go_end0
      exact ⟨rfl, HO.out, HT.out⟩
end Go.Proofs.Ytgbgknjfbjmhgaa
