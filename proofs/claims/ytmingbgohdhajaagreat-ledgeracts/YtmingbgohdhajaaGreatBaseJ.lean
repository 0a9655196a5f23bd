/- What a call may turn of memory: notions that every text of chapter 4 stands on. -/
import Derived.Test.YtmingbgohdhajaaGreatProg
import Derived.WalkKit
import Derived.Below
import Derived.KernelRfl
import Derived.Lib.Hide
import Derived.Laws.BitsLemmas
import Derived.RegionCalls
import Derived.Lib.MinMax
import Derived.Laws.CopyOwn
import Derived.Laws.AppendOwn
import Derived.Laws.MakeOwn
import Derived.Laws.Tables
import Derived.Deep.MidRow
namespace Go.Proofs.YtmingbgohdhajaaGreat
open Go.RowKit
set_option maxRecDepth 100000

theorem World.cell_new (w : World) (cs : Array Value) (t : TypeId) (o : Nat) : (w.alloc (.cells cs t)).cell? ⟨w.heap.size, o, none⟩ = cs[o]? := by
  unfold World.cell?
  rw [show (w.alloc (.cells cs t)).heap = w.heap.push (.cells cs t) from rfl]
  simp

theorem World.frozen_new (w : World) (cs : Array Value) (t : TypeId) (o : Nat) : (w.alloc (.cells cs t)).frozen? ⟨w.heap.size, o, none⟩ = false := by
  unfold World.frozen?
  rw [show (w.alloc (.cells cs t)).heap = w.heap.push (.cells cs t) from rfl]
  simp

theorem cell_ne {b o o' : Nat} (w : World) (v : Value) (h : ¬ o = o') : (w.setCell ⟨b, o, none⟩ v).cell? ⟨b, o', none⟩ = w.cell? ⟨b, o', none⟩ :=
  World.cell?_setCell_other w ⟨b, o, none⟩ ⟨b, o', none⟩ v (fun e => h (congrArg Addr.off e))

theorem lt_of_cell? {w : World} {a : Addr} {v : Value} (h : w.cell? a = some v) : a.block < w.heap.size := by
  unfold World.cell? at h
  rcases Nat.lt_or_ge a.block w.heap.size with h' | h'
  · exact h'
  · rw [Array.getElem?_eq_none h'] at h
    cases h

/-- From w to w' nothing turned but blocks of S, and new ones. -/
structure Touch (S : Nat → Prop) (w w' : World) : Prop where
  os : w'.os = w.os
  tape : w'.tape = w.tape
  output : w'.output = w.output
  size : w.heap.size ≤ w'.heap.size
  block : ∀ k, k < w.heap.size → ¬ S k → w'.heap[k]? = w.heap[k]?

theorem Touch.refl (S : Nat → Prop) (w : World) : Touch S w w := ⟨rfl, rfl, rfl, Nat.le_refl _, fun _ _ _ => rfl⟩
theorem Touch.trans {S : Nat → Prop} {a b c : World} (h : Touch S a b) (k : Touch S b c) : Touch S a c :=
  ⟨k.os.trans h.os, k.tape.trans h.tape, k.output.trans h.output, Nat.le_trans h.size k.size, fun i hi hn => (k.block i (Nat.lt_of_lt_of_le hi h.size) hn).trans (h.block i hi hn)⟩
theorem Touch.mono {S T : Nat → Prop} {a b : World} (h : Touch S a b) (hs : ∀ k, k < a.heap.size → S k → T k) : Touch T a b :=
  ⟨h.os, h.tape, h.output, h.size, fun k hk hn => h.block k hk (fun q => hn (hs k hk q))⟩
theorem Touch.drew {S : Nat → Prop} {a w : World} (h : Touch S a w) : Touch S a w.drew := ⟨h.os, h.tape, h.output, h.size, h.block⟩
theorem Touch.alloc {S : Nat → Prop} {a w : World} (h : Touch S a w) (o : Obj) : Touch S a (w.alloc o) :=
  h.trans ⟨rfl, rfl, rfl, by simp, fun k hk _ => Below.heap_alloc _ _ _ hk⟩
theorem Touch.setCell {S : Nat → Prop} {a w : World} (h : Touch S a w) {p : Addr} (hp : S p.block ∨ a.heap.size ≤ p.block) (u : Value) : Touch S a (w.setCell p u) :=
  ⟨h.os, h.tape, h.output, Nat.le_trans h.size (by simp [World.setCell]), fun k hk hn => (Below.heap_setCell _ _ _ _ (fun e => by subst e; rcases hp with hp | hp; exact hn hp; omega)).trans (h.block k hk hn)⟩
theorem Touch.cell {S : Nat → Prop} {w w' : World} (h : Touch S w w') {p : Addr} (hp : p.block < w.heap.size) (hn : ¬ S p.block) : w'.cell? p = w.cell? p := World.cell?_of_block (w := w) (h.block p.block hp hn)
theorem Touch.frozen {S : Nat → Prop} {w w' : World} (h : Touch S w w') {p : Addr} (hp : p.block < w.heap.size) (hn : ¬ S p.block) : w'.frozen? p = w.frozen? p := World.frozen?_of_block (w := w) (h.block p.block hp hn)
theorem Touch.below {S : Nat → Prop} {w w' : World} {B : Nat} (h : Touch S w w') (hB : B ≤ w.heap.size) (hs : ∀ k, k < B → ¬ S k) : Below B w w' :=
  ⟨h.os, h.tape, h.output, h.size, fun k hk => h.block k (by omega) (hs k hk)⟩
theorem Touch.of_below {w w' : World} (h : Below w.heap.size w w') : Touch (fun _ => False) w w' :=
  ⟨h.os, h.tape, h.output, h.size, fun k hk _ => h.block k hk⟩

/-- A number of 81 bits. -/
def Fits (n : Int) : Prop := -9223372036854775808 ≤ n ∧ n ≤ 9223372036854775807

theorem wrap_fits {n : Int} (h : Fits n) : IntKind.i64.wrap n = n := by
  unfold Fits at h
  rw [IntKind.wrap_i64]
  omega
theorem fits_wrap (q : Int) : Fits (IntKind.i64.wrap q) := by unfold Fits; rw [IntKind.wrap_i64]; omega

/-- A cell of numbers at the beginning of block b: it holds x; what else the block holds is y. -/
structure Num (b : Nat) (x : Int) (y : Option Value) (w : World) : Prop where
  c : w.cell? ⟨b, 0, none⟩ = some (.int .i64 x)
  d : w.cell? ⟨b, 1, none⟩ = y
  f : w.frozen? ⟨b, 0, none⟩ = false

theorem Num.lt {b : Nat} {x : Int} {y : Option Value} {w : World} (h : Num b x y w) : b < w.heap.size := lt_of_cell? h.c
theorem Num.touch {S : Nat → Prop} {w w' : World} {b : Nat} {x : Int} {y : Option Value} (K : Num b x y w) (h : Touch S w w') (hn : ¬ S b) : Num b x y w' :=
  ⟨(h.cell (p := ⟨b, 0, none⟩) K.lt hn).trans K.c, (h.cell (p := ⟨b, 1, none⟩) K.lt hn).trans K.d, (h.frozen (p := ⟨b, 0, none⟩) K.lt hn).trans K.f⟩
theorem Num.drew {b : Nat} {x : Int} {y : Option Value} {w : World} (K : Num b x y w) : Num b x y w.drew := K.touch (Touch.refl (fun _ => False) w).drew (fun h => h)
theorem Num.alloc {b : Nat} {x : Int} {y : Option Value} {w : World} (K : Num b x y w) (o : Obj) : Num b x y (w.alloc o) := K.touch ((Touch.refl (fun _ => False) w).alloc o) (fun h => h)
theorem Num.set {b : Nat} {x : Int} {y : Option Value} {w : World} (K : Num b x y w) (z : Int) : Num b z y (w.setCell ⟨b, 0, none⟩ (.int .i64 z)) :=
  ⟨World.cell?_setCell_same _ _ _ K.c, (cell_ne _ _ (by omega)).trans K.d, by simp [K.f]⟩

/-- A variable that lies in a block of its own. -/
structure Var (k : Nat) (x : Value) (w : World) : Prop where
  c : w.cell? ⟨k, 0, none⟩ = some x
  f : w.frozen? ⟨k, 0, none⟩ = false
theorem Var.lt {b : Nat} {x : Value} {w : World} (h : Var b x w) : b < w.heap.size := lt_of_cell? h.c
theorem Var.touch {S : Nat → Prop} {w w' : World} {k : Nat} {x : Value} (h : Var k x w) (m : Touch S w w') (hn : ¬ S k) : Var k x w' :=
  ⟨(m.cell (p := ⟨k, 0, none⟩) h.lt hn).trans h.c, (m.frozen (p := ⟨k, 0, none⟩) h.lt hn).trans h.f⟩
theorem Var.alloc {b : Nat} {x : Value} {w : World} (K : Var b x w) (o : Obj) : Var b x (w.alloc o) := K.touch ((Touch.refl (fun _ => False) w).alloc o) (fun h => h)
theorem Var.drew {b : Nat} {x : Value} {w : World} (K : Var b x w) : Var b x w.drew := K.touch (Touch.refl (fun _ => False) w).drew (fun h => h)
theorem Var.new (w : World) (x : Value) (t : TypeId) : Var w.heap.size x (w.alloc (.cells #[x] t)) := ⟨by rw [World.cell_new]; rfl, World.frozen_new _ _ _ _⟩
theorem Num.new (w : World) (x : Int) (t : TypeId) : Num w.heap.size x none (w.alloc (.cells #[.int .i64 x] t)) := ⟨by rw [World.cell_new]; rfl, by rw [World.cell_new]; rfl, World.frozen_new _ _ _ _⟩
end Go.Proofs.YtmingbgohdhajaaGreat
/- Bytes in memory: what a slice of bytes has; what stays of it. -/
namespace Go.Proofs.YtmingbgohdhajaaGreat
open Go.RowKit
set_option maxRecDepth 100000

/-- Place k of xs; behind its end 0. -/
def at0 (xs : List Nat) (k : Nat) : Nat := xs.getD k 0

theorem at0_lt {xs : List Nat} (h : ∀ x ∈ xs, x < 256) (k : Nat) : at0 xs k < 256 := by
  unfold at0
  rcases Nat.lt_or_ge k xs.length with hk | hk
  · rw [List.getD_eq_getElem?_getD, List.getElem?_eq_getElem hk]; exact h _ (List.getElem_mem hk)
  · rw [List.getD_eq_getElem?_getD, List.getElem?_eq_none hk]; decide

/-- The slice whose cells begin at a has the bytes xs. -/
structure Has (w : World) (a : Option Addr) (xs : List Nat) : Prop where
  byte : ∀ x ∈ xs, x < 256
  cell : ∀ i, i < xs.length → ∃ b off, a = some ⟨b, off, none⟩ ∧ w.cell? ⟨b, off + i, none⟩ = some (.int .u8 (at0 xs i : Int))

theorem Has.nil (w : World) (a : Option Addr) : Has w a [] := ⟨(fun _ h => by cases h), fun i hi => absurd hi (Nat.not_lt_zero _)⟩
theorem Has.touch {S : Nat → Prop} {w w' : World} {a : Option Addr} {xs : List Nat} (h : Has w a xs) (m : Touch S w w') (hn : ∀ b o, a = some ⟨b, o, none⟩ → ¬ S b) : Has w' a xs :=
  ⟨h.byte, fun i hi => by
    obtain ⟨b, off, rfl, hc⟩ := h.cell i hi
    exact ⟨b, off, rfl, (m.cell (p := ⟨b, off + i, none⟩) (lt_of_cell? hc) (hn b off rfl)).trans hc⟩⟩
/-- Nothing old turned. -/
abbrev Old (w w' : World) : Prop := Touch (fun _ => False) w w'
theorem Has.old {w w' : World} {a : Option Addr} {xs : List Nat} (h : Has w a xs) (m : Old w w') : Has w' a xs := h.touch m (fun _ _ _ h => h)

theorem at0_drop (xs : List Nat) (k i : Nat) : at0 (xs.drop k) i = at0 xs (k + i) := by simp [at0, List.getD_eq_getElem?_getD, List.getElem?_drop]
theorem at0_take {xs : List Nat} {k i : Nat} (h : i < k) : at0 (xs.take k) i = at0 xs i := by simp [at0, List.getD_eq_getElem?_getD, h]

/-- A run of the bytes. -/
theorem Has.part {w : World} {b off : Nat} {xs : List Nat} (h : Has w (some ⟨b, off, none⟩) xs) (k n : Nat) : Has w (some ⟨b, off + k, none⟩) ((xs.drop k).take n) :=
  ⟨fun x hx => h.byte x (List.mem_of_mem_drop (List.mem_of_mem_take hx)), fun i hi => by
    have hi' : i < n ∧ i < xs.length - k := by simp at hi; omega
    obtain ⟨b', off', e, hc⟩ := h.cell (k + i) (by omega)
    cases e
    refine ⟨b, off + k, rfl, ?_⟩
    rw [at0_take hi'.1, at0_drop, Nat.add_assoc]
    exact hc⟩
theorem Has.take {w : World} {a : Option Addr} {xs : List Nat} (h : Has w a xs) (n : Nat) : Has w a (xs.take n) :=
  ⟨fun x hx => h.byte x (List.mem_of_mem_take hx), fun i hi => by
    have hi' : i < n ∧ i < xs.length := by simp at hi; omega
    obtain ⟨b, off, e, hc⟩ := h.cell i hi'.2
    exact ⟨b, off, e, by rw [at0_take hi'.1]; exact hc⟩⟩

end Go.Proofs.YtmingbgohdhajaaGreat
/- Rows of bytes that a call itself made: written, made, copied onto. -/
namespace Go.Proofs.YtmingbgohdhajaaGreat
open Go.RowKit
set_option maxRecDepth 100000

def cells (xs : List Nat) : List Value := xs.map fun (x : Nat) => Value.int .u8 (x : Int)
theorem cells_length (xs : List Nat) : (cells xs).length = xs.length := by simp [cells]
theorem cells_append (xs ys : List Nat) : cells (xs ++ ys) = cells xs ++ cells ys := by simp [cells]
theorem cells_get (xs : List Nat) (i : Nat) (h : i < xs.length) : (cells xs)[i]? = some (.int .u8 (at0 xs i : Int)) := by
  simp [cells, at0, List.getD_eq_getElem?_getD, List.getElem?_eq_getElem h]
theorem cells_one (xs : List Nat) : ∀ v ∈ cells xs, v.oneCell' = true := fun v hv => by
  obtain ⟨x, _, rfl⟩ := List.mem_map.1 hv
  rfl

/-- Block g is a row of bytes; it begins with xs. -/
structure Own (w : World) (g : Nat) (xs : List Nat) : Prop where
  byte : ∀ x ∈ xs, x < 256
  row : ∃ rest, w.heap[g]? = some (.cells (cells xs ++ rest).toArray 5 (0, 0))

theorem Own.lt {w : World} {g : Nat} {xs : List Nat} (h : Own w g xs) : g < w.heap.size := by
  obtain ⟨rest, hg⟩ := h.row
  exact (Array.getElem?_eq_some_iff.1 hg).1
theorem Own.cell {w : World} {g : Nat} {xs : List Nat} (h : Own w g xs) (i : Nat) (hi : i < xs.length) : w.cell? ⟨g, i, none⟩ = some (.int .u8 (at0 xs i : Int)) := by
  obtain ⟨rest, hg⟩ := h.row
  unfold World.cell?
  simp only [hg]
  rw [List.getElem?_toArray, List.getElem?_append_left (by rw [cells_length]; exact hi)]
  exact cells_get xs i hi
theorem Own.frozen {w : World} {g : Nat} {xs : List Nat} (h : Own w g xs) (i : Nat) : w.frozen? ⟨g, i, none⟩ = false := by
  obtain ⟨rest, hg⟩ := h.row
  unfold World.frozen?
  simp [hg]
theorem Own.has {w : World} {g : Nat} {xs : List Nat} (h : Own w g xs) : Has w (some ⟨g, 0, none⟩) xs :=
  ⟨h.byte, fun i hi => ⟨g, 0, rfl, by rw [Nat.zero_add]; exact h.cell i hi⟩⟩
theorem Own.touch {S : Nat → Prop} {w w' : World} {g : Nat} {xs : List Nat} (h : Own w g xs) (m : Touch S w w') (hn : ¬ S g) : Own w' g xs := by
  obtain ⟨rest, hg⟩ := h.row
  exact ⟨h.byte, rest, by rw [m.block g h.lt hn]; exact hg⟩
theorem Own.old {w w' : World} {g : Nat} {xs : List Nat} (h : Own w g xs) (m : Old w w') : Own w' g xs := h.touch m (fun h => h)
theorem Own.set {w : World} {g : Nat} {xs : List Nat} (h : Own w g xs) (i x : Nat) (hi : i < xs.length) (hx : x < 256) : Own (w.setCell ⟨g, i, none⟩ (.int .u8 (x : Int))) g (xs.set i x) := by
  obtain ⟨rest, hg⟩ := h.row
  refine ⟨fun y hy => ?_, rest, ?_⟩
  · rcases List.mem_or_eq_of_mem_set hy with h1 | rfl
    · exact h.byte y h1
    · exact hx
  · rw [setCell_eq_setRow w g i _ 5 (0, 0) _ hg, setRow_heap w g _ _ 5 (0, 0) hg]
    congr 2
    apply Array.ext'
    rw [Array.toList_setIfInBounds]
    simp only [cells, List.map_set]
    rw [List.set_append_left _ _ (by simpa using hi)]
theorem Own.new (w : World) (xs : List Nat) (hb : ∀ x ∈ xs, x < 256) : Own (w.alloc (.cells (cells xs).toArray 5)) w.heap.size xs :=
  ⟨hb, [], by rw [List.append_nil]; exact heap_alloc_new w _⟩

/-- So many 0s. -/
def zeros (n : Nat) : List Nat := List.replicate n 0
theorem zeros_byte (n : Nat) : ∀ x ∈ zeros n, x < 256 := fun x hx => by
  have := (List.mem_replicate.1 hx).2
  omega
theorem zeros_length (n : Nat) : (zeros n).length = n := by simp [zeros]

theorem info_parts {e : TypeId} {z : Value} {s b : Nat} (h : (Tryz.prog.info? e).map (fun i => (i.zero, i.size, i.bytes)) = some (some z, s, b)) : ∃ i : TypeInfo, Tryz.prog.info? e = some i ∧ i.zero = some z ∧ i.size = s ∧ i.bytes = b := by
  cases hi : Tryz.prog.info? e with
  | none => rw [hi] at h; cases h
  | some i => rw [hi] at h; simp at h; exact ⟨i, rfl, h.1, h.2.1, h.2.2⟩
theorem info5 : (Tryz.prog.info? 5).map (fun i => (i.zero, i.size, i.bytes)) = some (some (.int .u8 0), 1, 1) := by kernel_rfl

theorem made_zeros (n : Nat) : madeCells (Value.int .u8 0).cells n = (cells (zeros n)).toArray := by
  apply Array.ext'
  apply List.ext_getElem?
  intro i
  rcases Nat.lt_or_ge i n with h | h
  · simp only [madeCells, cells, zeros]
    simp [h, Value.cells, Nat.mod_one]
  · simp [madeCells, cells, zeros, Nat.not_lt.2 h]

theorem make_bytes (n : Nat) (hn : n ≤ 281474976710656) (w : World) : (Instr.makeSlice 61 (.int .i64 n) (.int .i64 n)).run Tryz.prog w = .ok (.slice (some ⟨w.heap.size, 0, none⟩) n n) (w.alloc (.cells (cells (zeros n)).toArray 5)) := by
  obtain ⟨i0, hi, hz0, hz1, hz2⟩ := info_parts info5
  have h := run_make (P := Tryz.prog) w 61 5 i0 (.int .u8 0) Tryz.underlying61 hi hz0 .i64 .i64 (n : Int) (n : Int) (by omega) (by omega) (by rw [hz2]; omega) (by omega)
  rw [hz1] at h
  rw [h, ← made_zeros]
  simp

theorem Touch.setRow {S : Nat → Prop} {a w : World} (h : Touch S a w) {g : Nat} (hp : S g ∨ a.heap.size ≤ g) (cs : Array Value) : Touch S a (w.setRow g cs) :=
  ⟨h.os, h.tape, h.output, Nat.le_trans h.size (by simp [World.setRow]), fun k hk hn => (setRow_other w g k cs (fun e => by subst e; rcases hp with hp | hp; exact hn hp; omega)).trans (h.block k hk hn)⟩

theorem Touch.own {w w1 w2 : World} {g : Nat} (h : Old w w1) (t : Touch (fun k => k = g) w1 w2) (hg : w.heap.size ≤ g) : Old w w2 :=
  ⟨t.os.trans h.os, t.tape.trans h.tape, t.output.trans h.output, Nat.le_trans h.size t.size, fun k hk hn => (t.block k (Nat.lt_of_lt_of_le hk h.size) (by omega)).trans (h.block k hk hn)⟩

theorem size5 : (Tryz.prog.info? 5).map (·.size) = some 1 := by kernel_rfl

/-- Block g is the cells cs, of the type t. -/
def Blk (w : World) (g : Nat) (t : TypeId) (cs : List Value) : Prop := w.heap[g]? = some (.cells cs.toArray t (0, 0))
theorem Blk.lt {w : World} {g : Nat} {t : TypeId} {cs : List Value} (h : Blk w g t cs) : g < w.heap.size := (Array.getElem?_eq_some_iff.1 h).1
theorem Blk.cell {w : World} {g : Nat} {t : TypeId} {cs : List Value} (h : Blk w g t cs) (i : Nat) : w.cell? ⟨g, i, none⟩ = cs[i]? := by
  rw [cell_of_row w g i _ t (0, 0) h]; simp
theorem Blk.frozen {w : World} {g : Nat} {t : TypeId} {cs : List Value} (h : Blk w g t cs) (i : Nat) : w.frozen? ⟨g, i, none⟩ = false := frozen_of_row w g i _ t h
theorem Blk.new (w : World) (t : TypeId) (cs : List Value) : Blk (w.alloc (.cells cs.toArray t)) w.heap.size t cs := heap_alloc_new w _
theorem Blk.touch {S : Nat → Prop} {w w' : World} {g : Nat} {t : TypeId} {cs : List Value} (h : Blk w g t cs) (m : Touch S w w') (hn : ¬ S g) : Blk w' g t cs := (m.block g h.lt hn).trans h
theorem Blk.set {w : World} {g : Nat} {t : TypeId} {cs : List Value} (h : Blk w g t cs) (i : Nat) (u : Value) : Blk (w.setCell ⟨g, i, none⟩ u) g t (cs.set i u) := by
  have := heap_setCell_same w g i _ t u h
  unfold Blk
  rw [this]
  congr 2
  apply Array.ext'
  simp
theorem Blk.ne {w : World} {g g' : Nat} {t t' : TypeId} {cs cs' : List Value} (h : Blk w g t cs) (h' : Blk w g' t' cs') (hne : t ≠ t') : g ≠ g' := by
  rintro rfl
  unfold Blk at h h'
  rw [h] at h'
  injection h' with h'
  injection h' with _ ht
  exact hne ht
theorem Touch.one {w : World} (p : Addr) (u : Value) : Touch (fun k => k = p.block) w (w.setCell p u) := (Touch.refl (fun k => k = p.block) w).setCell (p := p) (.inl rfl) u
theorem Touch.of_old {S : Nat → Prop} {w w' : World} (h : Old w w') : Touch S w w' := h.mono (fun _ _ q => q.elim)

theorem setCells_touch (b : Nat) : ∀ (vs : List Value) (o : Nat) (w : World), Touch (fun k => k = b) w (w.setCells b o vs)
  | [], _, w => Touch.refl _ w
  | v :: r, o, w => by
    rw [World.setCells]
    exact (Touch.one ⟨b, o, none⟩ v).trans (setCells_touch b r (o + 1) _)
/-- Cells written into the middle of a block. -/
theorem Blk.setCells {g : Nat} {t : TypeId} : ∀ (vs : List Value) (o : Nat) (cs : List Value) (w : World), Blk w g t cs → o + vs.length ≤ cs.length → Blk (w.setCells g o vs) g t (splice cs o vs)
  | [], o, cs, w, h, _ => by simpa [World.setCells, splice] using h
  | v :: r, o, cs, w, h, hl => by
    rw [World.setCells]
    have h1 := Blk.setCells r (o + 1) (cs.set o v) _ (h.set o v) (by simp at hl ⊢; omega)
    have e : splice (cs.set o v) (o + 1) r = splice cs o (v :: r) := by
      have := list_seg_step cs o v r (by simp at hl; omega)
      simpa [splice, List.append_assoc] using this
    rwa [e] at h1

theorem Has.news {w : World} {a : Option Addr} {ys : List Nat} (h : Has w a ys) {b off : Nat} (e : a = some ⟨b, off, none⟩) : ∀ j v, (cells ys)[j]? = some v → w.cell? ((⟨b, off, none⟩ : Addr).add j) = some v := fun j v hj => by
  have hj' : j < ys.length := by
    rcases Nat.lt_or_ge j (cells ys).length with h | h
    · rwa [cells_length] at h
    · rw [List.getElem?_eq_none h] at hj; cases hj
  rw [cells_get _ _ hj'] at hj
  cases hj
  obtain ⟨b', off', e', hc⟩ := h.cell j hj'
  rw [e] at e'
  cases e'
  rw [show (⟨b, off, none⟩ : Addr).add j = ⟨b, off + j, none⟩ by unfold Addr.add; split <;> simp_all]
  exact hc

theorem splice_nil {α : Type} (L : List α) (o : Nat) : splice L o [] = L := by simp [splice]

/-- 'copy' of bytes into the middle of a block. -/
theorem copy_at (w : World) (g : Nat) (t : TypeId) (L : List Value) (off : Nat) (ys : List Nat) (a : Option Addr) (dLen dCap sLen sCap : Nat) (hO : Blk w g t L) (hH : Has w a ys) (hs : ys.length = sLen) (hf : off + dLen ≤ L.length) :
    ∃ w', (∀ ty, (Builtin.copy_ #[61, 61] ty #[.slice (some ⟨g, off, none⟩) dLen dCap, .slice a sLen sCap]).run Tryz.prog w = .ok (goInt (min sLen dLen : Nat)) w') ∧ Blk w' g t (splice L off (cells (ys.take dLen))) ∧ Touch (fun k => k = g) w w' := by
  by_cases h0 : min sLen dLen = 0
  · refine ⟨w, fun ty => ?_, ?_, Touch.refl _ _⟩
    · have := run_copy_none (P := Tryz.prog) w 61 61 ty 5 (some ⟨g, off, none⟩) a dLen dCap sLen sCap Tryz.underlying61 size5 h0
      rw [this, h0]; rfl
    · have : ys.take dLen = [] := List.eq_nil_of_length_eq_zero (by rw [List.length_take]; omega)
      rw [this, show cells [] = [] from rfl, splice_nil]
      exact hO
  · obtain ⟨b, o, rfl, _⟩ := hH.cell 0 (by omega)
    have hlen : (cells (ys.take dLen)).length = Nat.min sLen dLen := by rw [cells_length, List.length_take, hs, Nat.min_comm]
    have hle : Nat.min sLen dLen ≤ dLen := Nat.min_le_right _ _
    have hrun := fun ty => run_copy_row (P := Tryz.prog) w 61 61 ty 5 g off dLen dCap ⟨b, o, none⟩ sLen sCap L.toArray t (cells (ys.take dLen)) Tryz.underlying61 size5 hO hlen
      ((hH.take dLen).news rfl) (by rw [hlen]; simp only [List.size_toArray]; omega) (cells_one _)
    refine ⟨_, fun ty => by rw [hrun ty, hlen], ?_, (Touch.refl (fun k => k = g) w).setRow (.inl rfl) _⟩
    unfold Blk
    rw [setRow_heap w g _ _ t (0, 0) hO]
    simp only [splice, List.append_assoc]
    rw [hlen]
/-- A row of bytes is a block. -/
theorem Own.of_blk {w : World} {g : Nat} {xs : List Nat} (hb : ∀ x ∈ xs, x < 256) (h : Blk w g 5 (cells xs)) : Own w g xs := ⟨hb, [], by rw [List.append_nil]; exact h⟩
end Go.Proofs.YtmingbgohdhajaaGreat
/- A drum as plain lists: what is settled, what is afloat; what each call makes of it. -/
namespace Go.Proofs.YtmingbgohdhajaaGreat
open Go.RowKit
set_option maxRecDepth 100000

/-- Runs of z, one behind the other. -/
theorem flatten_get {α : Type} (z : Nat) : ∀ (L : List (List α)) (k j : Nat), (∀ b ∈ L, b.length = z) → j < z → L.flatten[k * z + j]? = (L[k]?).bind (fun b => b[j]?)
  | [], k, j, _, _ => by simp
  | b :: r, 0, j, h, hj => by
    have hb : b.length = z := h b (by simp)
    simp only [List.flatten_cons, Nat.zero_mul, Nat.zero_add, List.getElem?_cons_zero, Option.bind_some]
    rw [List.getElem?_append_left (by omega)]
  | b :: r, k + 1, j, h, hj => by
    have hb : b.length = z := h b (by simp)
    have ih := flatten_get z r k j (fun x hx => h x (by simp [hx])) hj
    simp only [List.flatten_cons, List.getElem?_cons_succ]
    rw [List.getElem?_append_right (by rw [hb, Nat.add_mul]; omega), hb, show (k + 1) * z + j - z = k * z + j by rw [Nat.add_mul]; omega]
    exact ih
theorem flatten_length {α : Type} (z : Nat) : ∀ (L : List (List α)), (∀ b ∈ L, b.length = z) → L.flatten.length = L.length * z
  | [], _ => by simp
  | b :: r, h => by
    rw [List.flatten_cons, List.length_append, flatten_length z r (fun x hx => h x (by simp [hx])), h b (by simp), List.length_cons, Nat.add_mul]
    omega
theorem flatten_splice {α : Type} (z : Nat) : ∀ (L : List (List α)) (k : Nat) (b : List α), (∀ b ∈ L, b.length = z) → b.length = z → k < L.length → splice L.flatten (k * z) b = (L.set k b).flatten
  | [], k, b, _, _, hk => absurd hk (Nat.not_lt_zero _)
  | c :: r, 0, b, h, hb, _ => by
    have hc : c.length = z := h c (by simp)
    simp only [splice, Nat.zero_mul, List.take_zero, List.nil_append, List.flatten_cons, Nat.zero_add, List.set_cons_zero]
    rw [hb, ← hc, List.drop_left]
  | c :: r, k + 1, b, h, hb, hk => by
    have hc : c.length = z := h c (by simp)
    have ih := flatten_splice z r k b (fun x hx => h x (by simp [hx])) hb (by simpa using hk)
    simp only [List.flatten_cons, List.set_cons_succ]
    rw [← ih]
    unfold splice
    have e1 : (k + 1) * z = c.length + k * z := by rw [hc, Nat.add_mul]; omega
    rw [e1, List.take_append, List.take_of_length_le (by omega), show c.length + k * z - c.length = k * z by omega, List.append_assoc]
    congr 2
    rw [Nat.add_assoc, List.drop_append, List.drop_eq_nil_of_le (by omega), List.nil_append, show c.length + (k * z + b.length) - c.length = k * z + b.length by omega]

/-- A track: 96 bytes. -/
structure Trk (b : List Nat) : Prop where
  byte : ∀ x ∈ b, x < 256
  len : b.length = 96

/-- A drum. -/
structure DS where
  T : List (List Nat)
  A : List (Nat × List Nat)
  left : Option Nat
  down : Bool
  turns : Nat

/-- The tracks with Lays over them. -/
def over (T : List (List Nat)) (A : List (Nat × List Nat)) : List (List Nat) := A.foldl (fun T x => T.set x.1 x.2) T
def DS.seen (D : DS) : List (List Nat) := over D.T D.A
theorem over_snoc (T : List (List Nat)) (A : List (Nat × List Nat)) (x : Nat × List Nat) : over T (A ++ [x]) = (over T A).set x.1 x.2 := by simp [over]
theorem over_length (T : List (List Nat)) : ∀ A : List (Nat × List Nat), (over T A).length = T.length := fun A => by
  induction A generalizing T with
  | nil => rfl
  | cons x r ih => show (over (T.set x.1 x.2) r).length = _; rw [ih, List.length_set]
theorem over_trk {T : List (List Nat)} (h : ∀ b ∈ T, Trk b) : ∀ A : List (Nat × List Nat), (∀ x ∈ A, Trk x.2) → ∀ b ∈ over T A, Trk b := fun A => by
  induction A generalizing T with
  | nil => exact fun _ => h
  | cons x r ih =>
    intro hA
    refine ih (T := T.set x.1 x.2) (fun b hb => ?_) (fun y hy => hA y (by simp [hy]))
    rcases List.mem_or_eq_of_mem_set hb with h1 | rfl
    · exact h b h1
    · exact hA x (by simp)
/-- A track that no Lay lies on. -/
theorem over_other (T : List (List Nat)) (k : Nat) : ∀ A : List (Nat × List Nat), (∀ x ∈ A, x.1 ≠ k) → (over T A)[k]? = T[k]? := fun A => by
  induction A generalizing T with
  | nil => exact fun _ => rfl
  | cons x r ih =>
    intro hA
    show (over (T.set x.1 x.2) r)[k]? = _
    rw [ih _ (fun y hy => hA y (by simp [hy])), List.getElem?_set_ne (hA x (by simp))]

/-- The bytes of a track of which the first so many are laid. -/
def mix (n : Nat) (b t : List Nat) : List Nat := b.take n ++ t.drop n
theorem mix_trk {n : Nat} {b t : List Nat} (hb : Trk b) (ht : Trk t) (hn : n ≤ 96) : Trk (mix n b t) := by
  refine ⟨fun x hx => ?_, ?_⟩
  · rcases List.mem_append.1 hx with h | h
    · exact hb.byte x (List.mem_of_mem_take h)
    · exact ht.byte x (List.mem_of_mem_drop h)
  · have := hb.len; have := ht.len
    simp [mix]; omega
theorem mix_all {b t : List Nat} (hb : Trk b) (ht : Trk t) : mix 96 b t = b := by
  unfold mix
  rw [List.take_of_length_le (by rw [hb.len]; exact Nat.le_refl _), List.drop_eq_nil_of_le (by rw [ht.len]; exact Nat.le_refl _), List.append_nil]
theorem mix_none (b t : List Nat) : mix 0 b t = t := by simp [mix]

/-- A fall: of the first n Lays so many bytes are done. -/
def falls (part : Nat → Nat) (T : List (List Nat)) (A : List (Nat × List Nat)) : Nat → List (List Nat)
  | 0 => T
  | n + 1 => (falls part T A n).set (A.getD n (0, [])).1 (mix (part n) (A.getD n (0, [])).2 ((falls part T A n).getD (A.getD n (0, [])).1 []))
theorem falls_length (part : Nat → Nat) (T : List (List Nat)) (A : List (Nat × List Nat)) : ∀ n, (falls part T A n).length = T.length
  | 0 => rfl
  | n + 1 => by rw [falls, List.length_set, falls_length part T A n]
theorem getD_of {α : Type} {l : List α} {n : Nat} {x d : α} (h : l[n]? = some x) : l.getD n d = x := by simp [h]
theorem mem_of_get {α : Type} {l : List α} {n : Nat} {x : α} (h : l[n]? = some x) : x ∈ l := List.mem_of_getElem? h
theorem get_of_lt {α : Type} {l : List α} {n : Nat} (h : n < l.length) : ∃ x, l[n]? = some x := ⟨_, List.getElem?_eq_getElem h⟩
theorem lt_of_get {α : Type} {l : List α} {n : Nat} {x : α} (h : l[n]? = some x) : n < l.length := (List.getElem?_eq_some_iff.1 h).1

theorem falls_trk {part : Nat → Nat} {T : List (List Nat)} {A : List (Nat × List Nat)} (hp : ∀ i, part i ≤ 96) (hT : ∀ b ∈ T, Trk b) (hA : ∀ x ∈ A, x.1 < T.length ∧ Trk x.2) : ∀ n, n ≤ A.length → ∀ b ∈ falls part T A n, Trk b
  | 0, _ => hT
  | n + 1, hn => fun b hb => by
    have ih := falls_trk hp hT hA n (by omega)
    obtain ⟨x, hx⟩ := get_of_lt (l := A) (n := n) (by omega)
    have hx' := hA x (mem_of_get hx)
    rw [falls, getD_of hx] at hb
    obtain ⟨t, ht⟩ := get_of_lt (l := falls part T A n) (n := x.1) (by rw [falls_length]; exact hx'.1)
    rw [getD_of ht] at hb
    rcases List.mem_or_eq_of_mem_set hb with h1 | rfl
    · exact ih b h1
    · exact mix_trk hx'.2 (ih t (mem_of_get ht)) (hp n)
theorem falls_other {part : Nat → Nat} {T : List (List Nat)} {A : List (Nat × List Nat)} (k : Nat) (hA : ∀ x ∈ A, x.1 ≠ k) : ∀ n, n ≤ A.length → (falls part T A n)[k]? = T[k]?
  | 0, _ => rfl
  | n + 1, hn => by
    obtain ⟨x, hx⟩ := get_of_lt (l := A) (n := n) (by omega)
    rw [falls, getD_of hx, List.getElem?_set_ne (hA x (mem_of_get hx)), falls_other k hA n (by omega)]

/-- May one more turn go well? -/
def DS.goes (D : DS) : Bool := !D.down && D.left != some 0
def DS.turned (D : DS) : DS := if D.goes then { D with turns := D.turns + 1, left := D.left.map (· - 1) } else { D with down := true }
/-- What a turn answers. -/
def DS.err (D : DS) : Nat := if D.goes then 0 else 4
def DS.lay (D : DS) (k : Nat) (b : List Nat) : DS := if D.goes then { D.turned with A := D.A ++ [(k, b)] } else D.turned
def DS.settle (D : DS) : DS := if D.goes then { D.turned with T := D.seen, A := [] } else D.turned
def DS.brk (D : DS) (n : Option Nat) : DS := { D with left := n }
def DS.fall (D : DS) (part : Nat → Nat) : DS := { T := falls part D.T D.A D.A.length, A := [], left := none, down := false, turns := D.turns }
def DS.new (n : Nat) : DS := { T := List.replicate n (zeros 96), A := [], left := none, down := false, turns := 0 }

/-- Such as may be. -/
structure DS.Ok (D : DS) : Prop where
  trk : ∀ b ∈ D.T, Trk b
  lay : ∀ x ∈ D.A, x.1 < D.T.length ∧ Trk x.2
  few : 10 ≤ D.T.length
  many : D.T.length ≤ 4096
  left : ∀ n, D.left = some n → n ≤ 1000
  long : D.A.length ≤ D.turns

theorem trk_zeros : Trk (zeros 96) := ⟨zeros_byte 96, zeros_length 96⟩
theorem DS.Ok.new {n : Nat} (h : 10 ≤ n) (h' : n ≤ 4096) : (DS.new n).Ok :=
  ⟨fun b hb => by rw [(List.mem_replicate.1 hb).2]; exact trk_zeros, (fun _ hx => by cases hx), by simp [DS.new]; omega, by simp [DS.new]; omega, (fun _ h => by cases h), Nat.le_refl _⟩
theorem DS.Ok.turned {D : DS} (h : D.Ok) : D.turned.Ok := by
  unfold DS.turned
  cases hg : D.goes with
  | true =>
    refine ⟨h.trk, h.lay, h.few, h.many, fun n hn => ?_, Nat.le_succ_of_le h.long⟩
    simp only at hn
    cases hl : D.left with
    | none => rw [hl] at hn; cases hn
    | some m => rw [hl] at hn; have := h.left m hl; cases hn; show m - 1 ≤ 1000; omega
  | false => exact ⟨h.trk, h.lay, h.few, h.many, h.left, h.long⟩
theorem DS.turned_T (D : DS) : D.turned.T = D.T := by unfold DS.turned; split <;> rfl
theorem DS.turned_A (D : DS) : D.turned.A = D.A := by unfold DS.turned; split <;> rfl
theorem DS.Ok.lain {D : DS} (h : D.Ok) {k : Nat} {b : List Nat} (hk : k < D.T.length) (hb : Trk b) : (D.lay k b).Ok := by
  unfold DS.lay
  cases hg : D.goes with
  | true =>
    have ht := h.turned
    refine ⟨ht.trk, fun x hx => ?_, ht.few, ht.many, ht.left, ?_⟩
    · rcases List.mem_append.1 hx with h1 | h1
      · have := h.lay x h1
        simp only [DS.turned_T]
        exact this
      · obtain rfl := List.mem_singleton.1 h1
        simp only [DS.turned_T]
        exact ⟨hk, hb⟩
    · have := h.long
      simp [DS.turned, hg]; omega
  | false => exact h.turned
theorem DS.Ok.settled {D : DS} (h : D.Ok) : D.settle.Ok := by
  unfold DS.settle
  cases hg : D.goes with
  | true =>
    have ht := h.turned
    refine ⟨over_trk h.trk D.A (fun x hx => (h.lay x hx).2), (fun _ hx => by cases hx), ?_, ?_, ht.left, Nat.zero_le _⟩
    · simp only [if_true, DS.seen]; rw [over_length]; exact h.few
    · simp only [if_true, DS.seen]; rw [over_length]; exact h.many
  | false => exact h.turned
theorem DS.Ok.brk {D : DS} (h : D.Ok) {n : Option Nat} (hn : ∀ m, n = some m → m ≤ 1000) : (D.brk n).Ok := ⟨h.trk, h.lay, h.few, h.many, hn, h.long⟩
theorem DS.Ok.fall {D : DS} (h : D.Ok) {part : Nat → Nat} (hp : ∀ i, part i ≤ 96) : (D.fall part).Ok :=
  ⟨falls_trk hp h.trk h.lay _ (Nat.le_refl _), (fun _ hx => by cases hx), by simp only [DS.fall]; rw [falls_length]; exact h.few, by simp only [DS.fall]; rw [falls_length]; exact h.many, (fun _ h => by cases h), Nat.zero_le _⟩
theorem DS.seen_trk {D : DS} (h : D.Ok) : ∀ b ∈ D.seen, Trk b := over_trk h.trk D.A (fun x hx => (h.lay x hx).2)
theorem DS.seen_length (D : DS) : D.seen.length = D.T.length := over_length _ _
theorem DS.seen_lay {D : DS} (k : Nat) (b : List Nat) (hg : D.goes = true) : (D.lay k b).seen = D.seen.set k b := by
  simp [DS.lay, hg, DS.seen, DS.turned_T, over_snoc]
end Go.Proofs.YtmingbgohdhajaaGreat
