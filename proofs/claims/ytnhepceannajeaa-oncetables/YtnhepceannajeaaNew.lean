/- Contracts of New, (*Cell).Made, and what a cell's block holds behind a Get. -/
import Derived.Test.YtnhepceannajeaaCall
namespace Go.Proofs.Ytnhepceannajeaa
open Go.RowKit Go.MuLone Go.Conc.Locks

/-- A new cell's block. -/
def fresh (mk : Value) : Obj := .cells #[.int .u32 0, .int .i32 0, .int .u32 0, mk, .int .i64 0, .int .u32 0] 58

theorem new_mk (f : Fn) (a c : Array Value) (w : World) :
    Calls Try.prog 9 #[.func f a c] w fun e w' => e = .returned (.pointer (some ⟨w.heap.size, 0, none⟩)) ∧ w' = w.alloc (fresh (.func f a c)) := by
  go_enter Try.func9, Try.ntmps9
  go_wp2_with fail
  go_ret
  exact ⟨rfl, rfl⟩

theorem new_nil (w : World) :
    Calls Try.prog 9 #[.nilFunc] w fun e w' => e = .returned (.pointer (some ⟨w.heap.size, 0, none⟩)) ∧ w' = w.alloc (fresh .nilFunc) := by
  go_enter Try.func9, Try.ntmps9
  go_wp2_with fail
  go_ret
  exact ⟨rfl, rfl⟩

theorem made_yes (b : Nat) (w : World) (c5 : w.cell? ⟨b, 5, none⟩ = some (.int .u32 1)) :
    Calls Try.prog 24 #[.pointer (some ⟨b, 0, none⟩)] w fun e w' => e = .returned (.bool true) ∧ w = w' := by
  go_enter Try.func24, Try.ntmps24
  go_wp2_with fail
  refine (load_up ⟨b, 5, none⟩ _ c5).mono ?_
  rintro e w' ⟨rfl, rfl⟩
  go_wp2_with fail
  go_ret
  exact ⟨rfl, rfl⟩

theorem made_no (b : Nat) (w : World) (c5 : w.cell? ⟨b, 5, none⟩ = some (.int .u32 0)) :
    Calls Try.prog 24 #[.pointer (some ⟨b, 0, none⟩)] w fun e w' => e = .returned (.bool false) ∧ w = w' := by
  go_enter Try.func24, Try.ntmps24
  go_wp2_with fail
  refine (load_down ⟨b, 5, none⟩ _ c5).mono ?_
  rintro e w' ⟨rfl, rfl⟩
  go_wp2_with fail
  go_ret
  exact ⟨rfl, rfl⟩

theorem made_none (w : World) :
    Calls Try.prog 24 #[.pointer none] w fun e w' => e = .returned (.bool false) ∧ w = w' := by
  go_enter Try.func24, Try.ntmps24
  go_wp2_with fail
  go_ret
  exact ⟨rfl, rfl⟩

theorem bcell {B : Nat} {W w1 : World} (hb : Below B W w1) : (∀ b o, b < B → w1.cell? ⟨b, o, none⟩ = W.cell? ⟨b, o, none⟩) ∧ (∀ b o, b < B → w1.frozen? ⟨b, o, none⟩ = W.frozen? ⟨b, o, none⟩) :=
  ⟨fun b o h => hb.cell (p := ⟨b, o, none⟩) h, fun b o h => hb.frozen (p := ⟨b, o, none⟩) h⟩

/-- A cell's block: not yet made, with its function. -/
structure Unmade (b : Nat) (mk : Value) (w : World) : Prop where
  c0 : w.cell? ⟨b, 0, none⟩ = some (.int .u32 0)
  c1 : w.cell? ⟨b, 1, none⟩ = some (.int .i32 0)
  c3 : w.cell? ⟨b, 3, none⟩ = some mk
  c4 : ∃ x, w.cell? ⟨b, 4, none⟩ = some x
  c5 : w.cell? ⟨b, 5, none⟩ = some (.int .u32 0)
  fz : ∀ o, w.frozen? ⟨b, o, none⟩ = false

/-- A cell's block: made, with its value. -/
structure Made (b : Nat) (v : Int) (w : World) : Prop where
  c0 : w.cell? ⟨b, 0, none⟩ = some (.int .u32 1)
  c4 : w.cell? ⟨b, 4, none⟩ = some (.int .i64 v)
  c5 : w.cell? ⟨b, 5, none⟩ = some (.int .u32 1)
  fz : ∀ o, w.frozen? ⟨b, o, none⟩ = false

theorem World.cell_new (w : World) (cs : Array Value) (t : TypeId) (o : Nat) : (w.alloc (.cells cs t)).cell? ⟨w.heap.size, o, none⟩ = cs[o]? := by
  unfold World.cell?
  rw [show (w.alloc (.cells cs t)).heap = w.heap.push (.cells cs t) from rfl]
  simp

theorem World.frozen_new (w : World) (cs : Array Value) (t : TypeId) (o : Nat) : (w.alloc (.cells cs t)).frozen? ⟨w.heap.size, o, none⟩ = false := by
  unfold World.frozen?
  rw [show (w.alloc (.cells cs t)).heap = w.heap.push (.cells cs t) from rfl]
  simp

theorem unmade_fresh (mk : Value) (w : World) : Unmade w.heap.size mk (w.alloc (fresh mk)) := by
  unfold fresh
  exact ⟨by rw [World.cell_new]; rfl, by rw [World.cell_new]; rfl, by rw [World.cell_new]; rfl, ⟨.int .i64 0, by rw [World.cell_new]; rfl⟩, by rw [World.cell_new]; rfl, fun o => World.frozen_new _ _ _ _⟩

/-- From w to w' nothing turned but blocks of S, and new ones. -/
structure Touch (S : Nat → Prop) (w w' : World) : Prop where
  os : w'.os = w.os
  tape : w'.tape = w.tape
  output : w'.output = w.output
  size : w.heap.size ≤ w'.heap.size
  block : ∀ k, k < w.heap.size → ¬ S k → w'.heap[k]? = w.heap[k]?

theorem Touch.refl (S : Nat → Prop) (w : World) : Touch S w w := ⟨rfl, rfl, rfl, Nat.le_refl _, fun _ _ _ => rfl⟩
theorem Touch.trans {S : Nat → Prop} {a b c : World} (h : Touch S a b) (k : Touch S b c) : Touch S a c :=
  ⟨k.os.trans h.os, k.tape.trans h.tape, k.output.trans h.output, Nat.le_trans h.size k.size, fun i hi hn => (k.block i (Nat.lt_of_lt_of_le hi h.size) hn).trans (h.block i hi hn)⟩
theorem Touch.mono {S T : Nat → Prop} {a b : World} (h : Touch S a b) (hs : ∀ k, k < a.heap.size → S k → T k) : Touch T a b :=
  ⟨h.os, h.tape, h.output, h.size, fun k hk hn => h.block k hk (fun q => hn (hs k hk q))⟩
theorem Touch.drew {S : Nat → Prop} {a w : World} (h : Touch S a w) : Touch S a w.drew := ⟨h.os, h.tape, h.output, h.size, h.block⟩
theorem Touch.alloc {S : Nat → Prop} {a w : World} (h : Touch S a w) (o : Obj) : Touch S a (w.alloc o) :=
  h.trans ⟨rfl, rfl, rfl, by simp, fun k hk _ => Below.heap_alloc _ _ _ hk⟩
theorem Touch.setCell {S : Nat → Prop} {a w : World} (h : Touch S a w) {p : Addr} (hp : S p.block ∨ a.heap.size ≤ p.block) (u : Value) : Touch S a (w.setCell p u) :=
  ⟨h.os, h.tape, h.output, Nat.le_trans h.size (by simp [World.setCell]), fun k hk hn => (Below.heap_setCell _ _ _ _ (fun e => by subst e; rcases hp with hp | hp; exact hn hp; omega)).trans (h.block k hk hn)⟩
theorem Touch.cell {S : Nat → Prop} {w w' : World} (h : Touch S w w') {p : Addr} (hp : p.block < w.heap.size) (hn : ¬ S p.block) : w'.cell? p = w.cell? p := World.cell?_of_block (w := w) (h.block p.block hp hn)
theorem Touch.frozen {S : Nat → Prop} {w w' : World} (h : Touch S w w') {p : Addr} (hp : p.block < w.heap.size) (hn : ¬ S p.block) : w'.frozen? p = w.frozen? p := World.frozen?_of_block (w := w) (h.block p.block hp hn)
theorem Touch.below {S : Nat → Prop} {w w' : World} {B : Nat} (h : Touch S w w') (hB : B ≤ w.heap.size) (hs : ∀ k, k < B → ¬ S k) : Below B w w' :=
  ⟨h.os, h.tape, h.output, h.size, fun k hk => h.block k (by omega) (hs k hk)⟩
theorem Touch.of_below {w w' : World} {B : Nat} (h : Below B w w') : Touch (fun k => B ≤ k) w w' :=
  ⟨h.os, h.tape, h.output, h.size, fun k _ hn => h.block k (by omega)⟩

theorem touch_done {S : Nat → Prop} {a w : World} {b : Nat} (h : Touch S a w) (hb : S b ∨ a.heap.size ≤ b) (v : Int) : Touch S a (doneBy b v w) := by
  unfold doneBy
  exact ((((h.setCell (p := ⟨b, 4, none⟩) hb _).setCell (p := ⟨b, 0, none⟩) hb _).drew.setCell (p := ⟨b, 1, none⟩) hb _).setCell (p := ⟨b, 5, none⟩) hb _).drew

theorem size_done (b : Nat) (v : Int) (w : World) : (doneBy b v w).heap.size = w.heap.size := by unfold doneBy; simp

theorem made_done {b : Nat} {w : World} (v : Int) (K : Keeps b w) : Made b v (doneBy b v w) := by
  obtain ⟨x4, c4⟩ := K.c4
  obtain ⟨x5, c5⟩ := K.c5
  unfold doneBy
  refine ⟨?_, ?_, ?_, ?_⟩
  · rw [World.cell?_drew, cell_ne _ _ (by omega), cell_ne _ _ (by omega), World.cell?_drew]
    exact World.cell?_setCell_same _ _ _ ((cell_ne _ _ (by omega)).trans K.c0)
  · rw [World.cell?_drew, cell_ne _ _ (by omega), cell_ne _ _ (by omega), World.cell?_drew, cell_ne _ _ (by omega)]
    exact World.cell?_setCell_same _ _ _ c4
  · rw [World.cell?_drew]
    refine World.cell?_setCell_same _ _ _ (u := x5) ?_
    rw [cell_ne _ _ (by omega), World.cell?_drew, cell_ne _ _ (by omega), cell_ne _ _ (by omega)]
    exact c5
  · intro o
    simp [K.fz o]

theorem lt_of_cell? {w : World} {a : Addr} {v : Value} (h : w.cell? a = some v) : a.block < w.heap.size := by
  unfold World.cell? at h
  rcases Nat.lt_or_ge a.block w.heap.size with h' | h'
  · exact h'
  · rw [Array.getElem?_eq_none h'] at h
    cases h

/-- The world in which a make is called: the lock held, the function struck. -/
abbrev atMake (b : Nat) (w : World) : World := (w.setCell ⟨b, 1, none⟩ (.int .i32 1)).setCell ⟨b, 3, none⟩ .nilFunc

theorem touch_atMake {S : Nat → Prop} {w : World} {b : Nat} (hb : S b) : Touch S w (atMake b w) :=
  ((Touch.refl S w).setCell (p := ⟨b, 1, none⟩) (Or.inl hb) _).setCell (p := ⟨b, 3, none⟩) (Or.inl hb) _

theorem keeps_atMake {b : Nat} {mk : Value} {w : World} (U : Unmade b mk w) : Keeps b (atMake b w) := by
  obtain ⟨x4, c4⟩ := U.c4
  refine ⟨?_, ?_, ⟨x4, ?_⟩, ⟨.int .u32 0, ?_⟩, fun o => by simp [U.fz o]⟩
  · rw [cell_ne _ _ (by omega), cell_ne _ _ (by omega)]; exact U.c0
  · rw [cell_ne _ _ (by omega)]; exact World.cell?_setCell_same _ _ _ U.c1
  · rw [cell_ne _ _ (by omega), cell_ne _ _ (by omega)]; exact c4
  · rw [cell_ne _ _ (by omega), cell_ne _ _ (by omega)]; exact U.c5

theorem Keeps.touch {S : Nat → Prop} {w w' : World} {b : Nat} (K : Keeps b w) (h : Touch S w w') (hn : ¬ S b) : Keeps b w' := by
  have hl : b < w.heap.size := lt_of_cell? K.c0
  have e := fun o => h.cell (p := ⟨b, o, none⟩) hl hn
  have f := fun o => h.frozen (p := ⟨b, o, none⟩) hl hn
  exact ⟨(e 0).trans K.c0, (e 1).trans K.c1, by obtain ⟨x, hx⟩ := K.c4; exact ⟨x, (e 4).trans hx⟩, by obtain ⟨x, hx⟩ := K.c5; exact ⟨x, (e 5).trans hx⟩, fun o => (f o).trans (K.fz o)⟩

theorem Made.touch {S : Nat → Prop} {w w' : World} {b : Nat} {v : Int} (K : Made b v w) (h : Touch S w w') (hn : ¬ S b) : Made b v w' := by
  have hl : b < w.heap.size := lt_of_cell? K.c0
  have e := fun o => h.cell (p := ⟨b, o, none⟩) hl hn
  have f := fun o => h.frozen (p := ⟨b, o, none⟩) hl hn
  exact ⟨(e 0).trans K.c0, (e 4).trans K.c4, (e 5).trans K.c5, fun o => (f o).trans (K.fz o)⟩

theorem Unmade.touch {S : Nat → Prop} {w w' : World} {b : Nat} {mk : Value} (K : Unmade b mk w) (h : Touch S w w') (hn : ¬ S b) : Unmade b mk w' := by
  have hl : b < w.heap.size := lt_of_cell? K.c0
  have e := fun o => h.cell (p := ⟨b, o, none⟩) hl hn
  have f := fun o => h.frozen (p := ⟨b, o, none⟩) hl hn
  exact ⟨(e 0).trans K.c0, (e 1).trans K.c1, (e 3).trans K.c3, by obtain ⟨x, hx⟩ := K.c4; exact ⟨x, (e 4).trans hx⟩, (e 5).trans K.c5, fun o => (f o).trans (K.fz o)⟩

/-- A later Get: the flag is stored once more. -/
def againBy (b : Nat) (w : World) : World := (w.setCell ⟨b, 5, none⟩ (.int .u32 1)).drew

theorem touch_again {S : Nat → Prop} {a w : World} {b : Nat} (h : Touch S a w) (hb : S b ∨ a.heap.size ≤ b) : Touch S a (againBy b w) := by
  unfold againBy
  exact (h.setCell (p := ⟨b, 5, none⟩) hb _).drew

theorem size_again (b : Nat) (w : World) : (againBy b w).heap.size = w.heap.size := by unfold againBy; simp

theorem made_again {b : Nat} {v : Int} {w : World} (K : Made b v w) : Made b v (againBy b w) := by
  unfold againBy
  refine ⟨?_, ?_, ?_, ?_⟩
  · rw [World.cell?_drew, cell_ne _ _ (by omega)]; exact K.c0
  · rw [World.cell?_drew, cell_ne _ _ (by omega)]; exact K.c4
  · rw [World.cell?_drew]; exact World.cell?_setCell_same _ _ _ K.c5
  · intro o; simp [K.fz o]

theorem get_made (b : Nat) (v : Int) (w : World) (K : Made b v w) :
    Calls Try.prog 19 #[.pointer (some ⟨b, 0, none⟩)] w fun e w' => e = .returned (.int .i64 v) ∧ w' = againBy b w :=
  get_again b v _ w K.c0 K.c4 K.c5 (K.fz 5)

theorem get_unmade (b : Nat) (mk : Value) (w : World) (R : Int → World → Prop) (U : Unmade b mk w)
    (h : Calls Try.prog 42 #[mk] (atMake b w) (Answers R)) (hR : ∀ v w', R v w' → Keeps b w') :
    Calls Try.prog 19 #[.pointer (some ⟨b, 0, none⟩)] w (Got b R) :=
  get_first b mk w R U.c0 U.c1 U.c3 U.fz h hR
end Go.Proofs.Ytnhepceannajeaa
