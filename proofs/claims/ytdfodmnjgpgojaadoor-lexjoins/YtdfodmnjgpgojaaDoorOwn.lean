/- Rows of bytes that a call itself made: written, made, copied onto. -/
import Derived.Test.YtdfodmnjgpgojaaDoorRow
import Derived.RegionCalls
import Derived.Lib.MinMax
import Derived.Laws.CopyOwn
import Derived.Laws.AppendOwn
import Derived.Laws.MakeOwn
import Derived.Laws.Tables
import Derived.Deep.MidRow
namespace Go.Proofs.YtdfodmnjgpgojaaDoor
open Go.RowKit
set_option maxRecDepth 100000

def cells (xs : List Nat) : List Value := xs.map fun (x : Nat) => Value.int .u8 (x : Int)
theorem cells_length (xs : List Nat) : (cells xs).length = xs.length := by simp [cells]
theorem cells_append (xs ys : List Nat) : cells (xs ++ ys) = cells xs ++ cells ys := by simp [cells]
theorem cells_get (xs : List Nat) (i : Nat) (h : i < xs.length) : (cells xs)[i]? = some (.int .u8 (at0 xs i : Int)) := by
  simp [cells, at0, List.getD_eq_getElem?_getD, List.getElem?_eq_getElem h]
theorem cells_one (xs : List Nat) : ∀ v ∈ cells xs, v.oneCell' = true := fun v hv => by
  obtain ⟨x, _, rfl⟩ := List.mem_map.1 hv
  rfl

/-- Block g is a row of bytes; it begins with xs. -/
structure Own (w : World) (g : Nat) (xs : List Nat) : Prop where
  byte : ∀ x ∈ xs, x < 256
  row : ∃ rest, w.heap[g]? = some (.cells (cells xs ++ rest).toArray 5 (0, 0))

theorem Own.lt {w : World} {g : Nat} {xs : List Nat} (h : Own w g xs) : g < w.heap.size := by
  obtain ⟨rest, hg⟩ := h.row
  exact (Array.getElem?_eq_some_iff.1 hg).1
theorem Own.cell {w : World} {g : Nat} {xs : List Nat} (h : Own w g xs) (i : Nat) (hi : i < xs.length) : w.cell? ⟨g, i, none⟩ = some (.int .u8 (at0 xs i : Int)) := by
  obtain ⟨rest, hg⟩ := h.row
  unfold World.cell?
  simp only [hg]
  rw [List.getElem?_toArray, List.getElem?_append_left (by rw [cells_length]; exact hi)]
  exact cells_get xs i hi
theorem Own.frozen {w : World} {g : Nat} {xs : List Nat} (h : Own w g xs) (i : Nat) : w.frozen? ⟨g, i, none⟩ = false := by
  obtain ⟨rest, hg⟩ := h.row
  unfold World.frozen?
  simp [hg]
theorem Own.has {w : World} {g : Nat} {xs : List Nat} (h : Own w g xs) : Has w (some ⟨g, 0, none⟩) xs :=
  ⟨h.byte, fun i hi => ⟨g, 0, rfl, by rw [Nat.zero_add]; exact h.cell i hi⟩⟩
theorem Own.touch {S : Nat → Prop} {w w' : World} {g : Nat} {xs : List Nat} (h : Own w g xs) (m : Touch S w w') (hn : ¬ S g) : Own w' g xs := by
  obtain ⟨rest, hg⟩ := h.row
  exact ⟨h.byte, rest, by rw [m.block g h.lt hn]; exact hg⟩
theorem Own.old {w w' : World} {g : Nat} {xs : List Nat} (h : Own w g xs) (m : Old w w') : Own w' g xs := h.touch m (fun h => h)
theorem Own.set {w : World} {g : Nat} {xs : List Nat} (h : Own w g xs) (i x : Nat) (hi : i < xs.length) (hx : x < 256) : Own (w.setCell ⟨g, i, none⟩ (.int .u8 (x : Int))) g (xs.set i x) := by
  obtain ⟨rest, hg⟩ := h.row
  refine ⟨fun y hy => ?_, rest, ?_⟩
  · rcases List.mem_or_eq_of_mem_set hy with h1 | rfl
    · exact h.byte y h1
    · exact hx
  · rw [setCell_eq_setRow w g i _ 5 (0, 0) _ hg, setRow_heap w g _ _ 5 (0, 0) hg]
    congr 2
    apply Array.ext'
    rw [Array.toList_setIfInBounds]
    simp only [cells, List.map_set]
    rw [List.set_append_left _ _ (by simpa using hi)]
theorem Own.new (w : World) (xs : List Nat) (hb : ∀ x ∈ xs, x < 256) : Own (w.alloc (.cells (cells xs).toArray 5)) w.heap.size xs :=
  ⟨hb, [], by rw [List.append_nil]; exact heap_alloc_new w _⟩

/-- So many 0s. -/
def zeros (n : Nat) : List Nat := List.replicate n 0
theorem zeros_byte (n : Nat) : ∀ x ∈ zeros n, x < 256 := fun x hx => by
  have := (List.mem_replicate.1 hx).2
  omega
theorem zeros_length (n : Nat) : (zeros n).length = n := by simp [zeros]

theorem info_parts {e : TypeId} {z : Value} {s b : Nat} (h : (Tryd.prog.info? e).map (fun i => (i.zero, i.size, i.bytes)) = some (some z, s, b)) : ∃ i : TypeInfo, Tryd.prog.info? e = some i ∧ i.zero = some z ∧ i.size = s ∧ i.bytes = b := by
  cases hi : Tryd.prog.info? e with
  | none => rw [hi] at h; cases h
  | some i => rw [hi] at h; simp at h; exact ⟨i, rfl, h.1, h.2.1, h.2.2⟩
theorem info5 : (Tryd.prog.info? 5).map (fun i => (i.zero, i.size, i.bytes)) = some (some (.int .u8 0), 1, 1) := by kernel_rfl

theorem made_zeros (n : Nat) : madeCells (Value.int .u8 0).cells n = (cells (zeros n)).toArray := by
  apply Array.ext'
  apply List.ext_getElem?
  intro i
  rcases Nat.lt_or_ge i n with h | h
  · simp only [madeCells, cells, zeros]
    simp [h, Value.cells, Nat.mod_one]
  · simp [madeCells, cells, zeros, Nat.not_lt.2 h]

theorem make_bytes (n : Nat) (hn : n ≤ 281474976710656) (w : World) : (Instr.makeSlice 27 (.int .i64 n) (.int .i64 n)).run Tryd.prog w = .ok (.slice (some ⟨w.heap.size, 0, none⟩) n n) (w.alloc (.cells (cells (zeros n)).toArray 5)) := by
  obtain ⟨i0, hi, hz0, hz1, hz2⟩ := info_parts info5
  have h := run_make (P := Tryd.prog) w 27 5 i0 (.int .u8 0) Tryd.underlying27 hi hz0 .i64 .i64 (n : Int) (n : Int) (by omega) (by omega) (by rw [hz2]; omega) (by omega)
  rw [hz1] at h
  rw [h, ← made_zeros]
  simp

theorem Touch.setRow {S : Nat → Prop} {a w : World} (h : Touch S a w) {g : Nat} (hp : S g ∨ a.heap.size ≤ g) (cs : Array Value) : Touch S a (w.setRow g cs) :=
  ⟨h.os, h.tape, h.output, Nat.le_trans h.size (by simp [World.setRow]), fun k hk hn => (setRow_other w g k cs (fun e => by subst e; rcases hp with hp | hp; exact hn hp; omega)).trans (h.block k hk hn)⟩

theorem Touch.own {w w1 w2 : World} {g : Nat} (h : Old w w1) (t : Touch (fun k => k = g) w1 w2) (hg : w.heap.size ≤ g) : Old w w2 :=
  ⟨t.os.trans h.os, t.tape.trans h.tape, t.output.trans h.output, Nat.le_trans h.size t.size, fun k hk hn => (t.block k (Nat.lt_of_lt_of_le hk h.size) (by omega)).trans (h.block k hk hn)⟩

theorem size5 : (Tryd.prog.info? 5).map (·.size) = some 1 := by kernel_rfl

/-- Block g is the cells cs, of the type t. -/
def Blk (w : World) (g : Nat) (t : TypeId) (cs : List Value) : Prop := w.heap[g]? = some (.cells cs.toArray t (0, 0))
theorem Blk.lt {w : World} {g : Nat} {t : TypeId} {cs : List Value} (h : Blk w g t cs) : g < w.heap.size := (Array.getElem?_eq_some_iff.1 h).1
theorem Blk.cell {w : World} {g : Nat} {t : TypeId} {cs : List Value} (h : Blk w g t cs) (i : Nat) : w.cell? ⟨g, i, none⟩ = cs[i]? := by
  rw [cell_of_row w g i _ t (0, 0) h]; simp
theorem Blk.frozen {w : World} {g : Nat} {t : TypeId} {cs : List Value} (h : Blk w g t cs) (i : Nat) : w.frozen? ⟨g, i, none⟩ = false := frozen_of_row w g i _ t h
theorem Blk.new (w : World) (t : TypeId) (cs : List Value) : Blk (w.alloc (.cells cs.toArray t)) w.heap.size t cs := heap_alloc_new w _
theorem Blk.touch {S : Nat → Prop} {w w' : World} {g : Nat} {t : TypeId} {cs : List Value} (h : Blk w g t cs) (m : Touch S w w') (hn : ¬ S g) : Blk w' g t cs := (m.block g h.lt hn).trans h
theorem Blk.set {w : World} {g : Nat} {t : TypeId} {cs : List Value} (h : Blk w g t cs) (i : Nat) (u : Value) : Blk (w.setCell ⟨g, i, none⟩ u) g t (cs.set i u) := by
  have := heap_setCell_same w g i _ t u h
  unfold Blk
  rw [this]
  congr 2
  apply Array.ext'
  simp
theorem Blk.ne {w : World} {g g' : Nat} {t t' : TypeId} {cs cs' : List Value} (h : Blk w g t cs) (h' : Blk w g' t' cs') (hne : t ≠ t') : g ≠ g' := by
  rintro rfl
  unfold Blk at h h'
  rw [h] at h'
  injection h' with h'
  injection h' with _ ht
  exact hne ht
theorem Touch.one {w : World} (p : Addr) (u : Value) : Touch (fun k => k = p.block) w (w.setCell p u) := (Touch.refl (fun k => k = p.block) w).setCell (p := p) (.inl rfl) u
theorem Touch.of_old {S : Nat → Prop} {w w' : World} (h : Old w w') : Touch S w w' := h.mono (fun _ _ q => q.elim)

theorem setCells_touch (b : Nat) : ∀ (vs : List Value) (o : Nat) (w : World), Touch (fun k => k = b) w (w.setCells b o vs)
  | [], _, w => Touch.refl _ w
  | v :: r, o, w => by
    rw [World.setCells]
    exact (Touch.one ⟨b, o, none⟩ v).trans (setCells_touch b r (o + 1) _)
/-- Cells written into the middle of a block. -/
theorem Blk.setCells {g : Nat} {t : TypeId} : ∀ (vs : List Value) (o : Nat) (cs : List Value) (w : World), Blk w g t cs → o + vs.length ≤ cs.length → Blk (w.setCells g o vs) g t (splice cs o vs)
  | [], o, cs, w, h, _ => by simpa [World.setCells, splice] using h
  | v :: r, o, cs, w, h, hl => by
    rw [World.setCells]
    have h1 := Blk.setCells r (o + 1) (cs.set o v) _ (h.set o v) (by simp at hl ⊢; omega)
    have e : splice (cs.set o v) (o + 1) r = splice cs o (v :: r) := by
      have := list_seg_step cs o v r (by simp at hl; omega)
      simpa [splice, List.append_assoc] using this
    rwa [e] at h1

theorem Has.news {w : World} {a : Option Addr} {ys : List Nat} (h : Has w a ys) {b off : Nat} (e : a = some ⟨b, off, none⟩) : ∀ j v, (cells ys)[j]? = some v → w.cell? ((⟨b, off, none⟩ : Addr).add j) = some v := fun j v hj => by
  have hj' : j < ys.length := by
    rcases Nat.lt_or_ge j (cells ys).length with h | h
    · rwa [cells_length] at h
    · rw [List.getElem?_eq_none h] at hj; cases hj
  rw [cells_get _ _ hj'] at hj
  cases hj
  obtain ⟨b', off', e', hc⟩ := h.cell j hj'
  rw [e] at e'
  cases e'
  rw [show (⟨b, off, none⟩ : Addr).add j = ⟨b, off + j, none⟩ by unfold Addr.add; split <;> simp_all]
  exact hc

theorem splice_nil {α : Type} (L : List α) (o : Nat) : splice L o [] = L := by simp [splice]

/-- 'copy' of bytes into the middle of a block. -/
theorem copy_at (w : World) (g : Nat) (t : TypeId) (L : List Value) (off : Nat) (ys : List Nat) (a : Option Addr) (dLen dCap sLen sCap : Nat) (hO : Blk w g t L) (hH : Has w a ys) (hs : ys.length = sLen) (hf : off + dLen ≤ L.length) :
    ∃ w', (∀ ty, (Builtin.copy_ #[27, 27] ty #[.slice (some ⟨g, off, none⟩) dLen dCap, .slice a sLen sCap]).run Tryd.prog w = .ok (goInt (min sLen dLen : Nat)) w') ∧ Blk w' g t (splice L off (cells (ys.take dLen))) ∧ Touch (fun k => k = g) w w' := by
  by_cases h0 : min sLen dLen = 0
  · refine ⟨w, fun ty => ?_, ?_, Touch.refl _ _⟩
    · have := run_copy_none (P := Tryd.prog) w 27 27 ty 5 (some ⟨g, off, none⟩) a dLen dCap sLen sCap Tryd.underlying27 size5 h0
      rw [this, h0]; rfl
    · have : ys.take dLen = [] := List.eq_nil_of_length_eq_zero (by rw [List.length_take]; omega)
      rw [this, show cells [] = [] from rfl, splice_nil]
      exact hO
  · obtain ⟨b, o, rfl, _⟩ := hH.cell 0 (by omega)
    have hlen : (cells (ys.take dLen)).length = Nat.min sLen dLen := by rw [cells_length, List.length_take, hs, Nat.min_comm]
    have hle : Nat.min sLen dLen ≤ dLen := Nat.min_le_right _ _
    have hrun := fun ty => run_copy_row (P := Tryd.prog) w 27 27 ty 5 g off dLen dCap ⟨b, o, none⟩ sLen sCap L.toArray t (cells (ys.take dLen)) Tryd.underlying27 size5 hO hlen
      ((hH.take dLen).news rfl) (by rw [hlen]; simp only [List.size_toArray]; omega) (cells_one _)
    refine ⟨_, fun ty => by rw [hrun ty, hlen], ?_, (Touch.refl (fun k => k = g) w).setRow (.inl rfl) _⟩
    unfold Blk
    rw [setRow_heap w g _ _ t (0, 0) hO]
    simp only [splice, List.append_assoc]
    rw [hlen]
/-- A row of bytes is a block. -/
theorem Own.of_blk {w : World} {g : Nat} {xs : List Nat} (hb : ∀ x ∈ xs, x < 256) (h : Blk w g 5 (cells xs)) : Own w g xs := ⟨hb, [], by rw [List.append_nil]; exact h⟩
end Go.Proofs.YtdfodmnjgpgojaaDoor
