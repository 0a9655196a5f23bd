/- What a call may turn of memory: notions that every text of chapter 4 stands on. -/
import Derived.Test.YtdfodmnjgpgojaaDoorProg
import Derived.WalkKit
import Derived.Below
import Derived.KernelRfl
import Derived.Lib.Hide
import Derived.Laws.BitsLemmas
namespace Go.Proofs.YtdfodmnjgpgojaaDoor
open Go.RowKit
set_option maxRecDepth 100000

theorem World.cell_new (w : World) (cs : Array Value) (t : TypeId) (o : Nat) : (w.alloc (.cells cs t)).cell? ⟨w.heap.size, o, none⟩ = cs[o]? := by
  unfold World.cell?
  rw [show (w.alloc (.cells cs t)).heap = w.heap.push (.cells cs t) from rfl]
  simp

theorem World.frozen_new (w : World) (cs : Array Value) (t : TypeId) (o : Nat) : (w.alloc (.cells cs t)).frozen? ⟨w.heap.size, o, none⟩ = false := by
  unfold World.frozen?
  rw [show (w.alloc (.cells cs t)).heap = w.heap.push (.cells cs t) from rfl]
  simp

theorem cell_ne {b o o' : Nat} (w : World) (v : Value) (h : ¬ o = o') : (w.setCell ⟨b, o, none⟩ v).cell? ⟨b, o', none⟩ = w.cell? ⟨b, o', none⟩ :=
  World.cell?_setCell_other w ⟨b, o, none⟩ ⟨b, o', none⟩ v (fun e => h (congrArg Addr.off e))

theorem lt_of_cell? {w : World} {a : Addr} {v : Value} (h : w.cell? a = some v) : a.block < w.heap.size := by
  unfold World.cell? at h
  rcases Nat.lt_or_ge a.block w.heap.size with h' | h'
  · exact h'
  · rw [Array.getElem?_eq_none h'] at h
    cases h

/-- From w to w' nothing turned but blocks of S, and new ones. -/
structure Touch (S : Nat → Prop) (w w' : World) : Prop where
  os : w'.os = w.os
  tape : w'.tape = w.tape
  output : w'.output = w.output
  size : w.heap.size ≤ w'.heap.size
  block : ∀ k, k < w.heap.size → ¬ S k → w'.heap[k]? = w.heap[k]?

theorem Touch.refl (S : Nat → Prop) (w : World) : Touch S w w := ⟨rfl, rfl, rfl, Nat.le_refl _, fun _ _ _ => rfl⟩
theorem Touch.trans {S : Nat → Prop} {a b c : World} (h : Touch S a b) (k : Touch S b c) : Touch S a c :=
  ⟨k.os.trans h.os, k.tape.trans h.tape, k.output.trans h.output, Nat.le_trans h.size k.size, fun i hi hn => (k.block i (Nat.lt_of_lt_of_le hi h.size) hn).trans (h.block i hi hn)⟩
theorem Touch.mono {S T : Nat → Prop} {a b : World} (h : Touch S a b) (hs : ∀ k, k < a.heap.size → S k → T k) : Touch T a b :=
  ⟨h.os, h.tape, h.output, h.size, fun k hk hn => h.block k hk (fun q => hn (hs k hk q))⟩
theorem Touch.drew {S : Nat → Prop} {a w : World} (h : Touch S a w) : Touch S a w.drew := ⟨h.os, h.tape, h.output, h.size, h.block⟩
theorem Touch.alloc {S : Nat → Prop} {a w : World} (h : Touch S a w) (o : Obj) : Touch S a (w.alloc o) :=
  h.trans ⟨rfl, rfl, rfl, by simp, fun k hk _ => Below.heap_alloc _ _ _ hk⟩
theorem Touch.setCell {S : Nat → Prop} {a w : World} (h : Touch S a w) {p : Addr} (hp : S p.block ∨ a.heap.size ≤ p.block) (u : Value) : Touch S a (w.setCell p u) :=
  ⟨h.os, h.tape, h.output, Nat.le_trans h.size (by simp [World.setCell]), fun k hk hn => (Below.heap_setCell _ _ _ _ (fun e => by subst e; rcases hp with hp | hp; exact hn hp; omega)).trans (h.block k hk hn)⟩
theorem Touch.cell {S : Nat → Prop} {w w' : World} (h : Touch S w w') {p : Addr} (hp : p.block < w.heap.size) (hn : ¬ S p.block) : w'.cell? p = w.cell? p := World.cell?_of_block (w := w) (h.block p.block hp hn)
theorem Touch.frozen {S : Nat → Prop} {w w' : World} (h : Touch S w w') {p : Addr} (hp : p.block < w.heap.size) (hn : ¬ S p.block) : w'.frozen? p = w.frozen? p := World.frozen?_of_block (w := w) (h.block p.block hp hn)
theorem Touch.below {S : Nat → Prop} {w w' : World} {B : Nat} (h : Touch S w w') (hB : B ≤ w.heap.size) (hs : ∀ k, k < B → ¬ S k) : Below B w w' :=
  ⟨h.os, h.tape, h.output, h.size, fun k hk => h.block k (by omega) (hs k hk)⟩
theorem Touch.of_below {w w' : World} (h : Below w.heap.size w w') : Touch (fun _ => False) w w' :=
  ⟨h.os, h.tape, h.output, h.size, fun k hk _ => h.block k hk⟩

/-- A number of 81 bits. -/
def Fits (n : Int) : Prop := -9223372036854775808 ≤ n ∧ n ≤ 9223372036854775807

theorem wrap_fits {n : Int} (h : Fits n) : IntKind.i64.wrap n = n := by
  unfold Fits at h
  rw [IntKind.wrap_i64]
  omega
theorem fits_wrap (q : Int) : Fits (IntKind.i64.wrap q) := by unfold Fits; rw [IntKind.wrap_i64]; omega

/-- A cell of numbers at the beginning of block b: it holds x; what else the block holds is y. -/
structure Num (b : Nat) (x : Int) (y : Option Value) (w : World) : Prop where
  c : w.cell? ⟨b, 0, none⟩ = some (.int .i64 x)
  d : w.cell? ⟨b, 1, none⟩ = y
  f : w.frozen? ⟨b, 0, none⟩ = false

theorem Num.lt {b : Nat} {x : Int} {y : Option Value} {w : World} (h : Num b x y w) : b < w.heap.size := lt_of_cell? h.c
theorem Num.touch {S : Nat → Prop} {w w' : World} {b : Nat} {x : Int} {y : Option Value} (K : Num b x y w) (h : Touch S w w') (hn : ¬ S b) : Num b x y w' :=
  ⟨(h.cell (p := ⟨b, 0, none⟩) K.lt hn).trans K.c, (h.cell (p := ⟨b, 1, none⟩) K.lt hn).trans K.d, (h.frozen (p := ⟨b, 0, none⟩) K.lt hn).trans K.f⟩
theorem Num.drew {b : Nat} {x : Int} {y : Option Value} {w : World} (K : Num b x y w) : Num b x y w.drew := K.touch (Touch.refl (fun _ => False) w).drew (fun h => h)
theorem Num.alloc {b : Nat} {x : Int} {y : Option Value} {w : World} (K : Num b x y w) (o : Obj) : Num b x y (w.alloc o) := K.touch ((Touch.refl (fun _ => False) w).alloc o) (fun h => h)
theorem Num.set {b : Nat} {x : Int} {y : Option Value} {w : World} (K : Num b x y w) (z : Int) : Num b z y (w.setCell ⟨b, 0, none⟩ (.int .i64 z)) :=
  ⟨World.cell?_setCell_same _ _ _ K.c, (cell_ne _ _ (by omega)).trans K.d, by simp [K.f]⟩

/-- A variable that lies in a block of its own. -/
structure Var (k : Nat) (x : Value) (w : World) : Prop where
  c : w.cell? ⟨k, 0, none⟩ = some x
  f : w.frozen? ⟨k, 0, none⟩ = false
theorem Var.lt {b : Nat} {x : Value} {w : World} (h : Var b x w) : b < w.heap.size := lt_of_cell? h.c
theorem Var.touch {S : Nat → Prop} {w w' : World} {k : Nat} {x : Value} (h : Var k x w) (m : Touch S w w') (hn : ¬ S k) : Var k x w' :=
  ⟨(m.cell (p := ⟨k, 0, none⟩) h.lt hn).trans h.c, (m.frozen (p := ⟨k, 0, none⟩) h.lt hn).trans h.f⟩
theorem Var.alloc {b : Nat} {x : Value} {w : World} (K : Var b x w) (o : Obj) : Var b x (w.alloc o) := K.touch ((Touch.refl (fun _ => False) w).alloc o) (fun h => h)
theorem Var.drew {b : Nat} {x : Value} {w : World} (K : Var b x w) : Var b x w.drew := K.touch (Touch.refl (fun _ => False) w).drew (fun h => h)
theorem Var.new (w : World) (x : Value) (t : TypeId) : Var w.heap.size x (w.alloc (.cells #[x] t)) := ⟨by rw [World.cell_new]; rfl, World.frozen_new _ _ _ _⟩
theorem Num.new (w : World) (x : Int) (t : TypeId) : Num w.heap.size x none (w.alloc (.cells #[.int .i64 x] t)) := ⟨by rw [World.cell_new]; rfl, by rw [World.cell_new]; rfl, World.frozen_new _ _ _ _⟩
end Go.Proofs.YtdfodmnjgpgojaaDoor
