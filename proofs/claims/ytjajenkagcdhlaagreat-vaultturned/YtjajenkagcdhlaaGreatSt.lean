/- A drum that a law made: its calls, and what stays beside it; lariatref7.SameInts. -/
import Derived.Test.YtjajenkagcdhlaaGreatFallW
namespace Go.Proofs.YtjajenkagcdhlaaGreat
open Go.RowKit
set_option maxRecDepth 100000

/-- A type that no block of a drum has. -/
def other (t : TypeId) : Prop := t ≠ 100 ∧ t ≠ 105 ∧ t ≠ 112 ∧ t ≠ 107 ∧ t ≠ 120
/-- Blocks of other types are as they were. -/
structure Kept (w w' : World) : Prop where
  blk : ∀ t g cs, other t → Blk w g t cs → Blk w' g t cs
  map : ∀ (g : Nat) es clock, w.heap[g]? = some (Obj.map es clock) → w'.heap[g]? = some (Obj.map es clock)
theorem Kept.refl (w : World) : Kept w w := ⟨fun _ _ _ _ h => h, fun _ _ _ h => h⟩
theorem Kept.trans {a b c : World} (h : Kept a b) (k : Kept b c) : Kept a c := ⟨fun t g cs ht hb => k.blk t g cs ht (h.blk t g cs ht hb), fun g es cl hg => k.map g es cl (h.map g es cl hg)⟩
theorem Kept.of_old {w w' : World} (h : Old w w') : Kept w w' := ⟨fun _ _ _ _ hb => hb.touch h (fun q => q), fun g _ _ hg => (h.block g (Array.getElem?_eq_some_iff.1 hg).1 (fun q => q)).trans hg⟩
theorem Kept.bytes {w w' : World} (h : Kept w w') {g : Nat} {cs : List Value} (hb : Blk w g 5 cs) : Blk w' g 5 cs := h.blk 5 g cs (by unfold other; decide) hb
theorem Kept.ints {w w' : World} (h : Kept w w') {g : Nat} {cs : List Value} (hb : Blk w g 3 cs) : Blk w' g 3 cs := h.blk 3 g cs (by unfold other; decide) hb

/-- A drum's blocks are cells. -/
theorem Dr.foot_cells {d : Nat} {b : Bl} {D : DS} {w : World} (h : Dr d b D w) {k : Nat} (hk : foot d b k) (hm : ∃ es clock, w.heap[k]? = some (.map es clock)) : False := by
  obtain ⟨es, clock, hm⟩ := hm
  have no : ∀ t cs, Blk w k t cs → False := fun t cs hb => by
    unfold Blk at hb
    rw [hm] at hb
    cases hb
  rcases hk with rfl | rfl | rfl | rfl | e | e
  · exact no _ _ h.at_.head
  · exact no _ _ h.at_.set
  · exact no _ _ h.at_.see
  · exact no _ _ h.at_.flag
  · rcases h.at_.own.2 with ⟨e', _⟩ | ⟨g', cap, cur, e', _, hg', _⟩
    · rw [e'] at e; cases e
    · rw [e'] at e
      have : g' = k := by simpa [Value.ownBlock] using e
      subst this
      rw [hm] at hg'
      cases hg'
  · rcases h.at_.well with ⟨_, e'⟩ | ⟨g', n, m, _, e', hb⟩
    · rw [e'] at e; cases e
    · rw [e'] at e
      have : g' = k := by simpa using e
      subst this
      exact no _ _ hb
theorem Dr.not_foot {d : Nat} {b : Bl} {D : DS} {w : World} (h : Dr d b D w) {g : Nat} {t : TypeId} {cs : List Value} (hb : Blk w g t cs) (ht : other t) : ¬ foot d b g := by
  obtain ⟨h1, h2, h3, h4, h5⟩ := ht
  rintro (e | e | e | e | e | e)
  · exact hb.ne h.at_.head h1 e
  · exact hb.ne h.at_.set h2 e
  · exact hb.ne h.at_.see h2 e
  · exact hb.ne h.at_.flag h3 e
  · exact own_blk h.at_.own hb (fun q => h4 q.symm) e
  · exact well_blk h.at_.well hb (fun q => h5 q.symm) e

/-- Where a law began, and blocks of budgets that are no drum's. -/
structure Fr where
  w : World
  X : List (Nat × List Value)
/-- A drum of a law that began in w0. -/
structure St (w0 : Fr) (d : Nat) (b : Bl) (D : DS) (w : World) : Prop where
  dr : Dr d b D w
  old : Old w0.w w
  new : ∀ k, foot d b k → w0.w.heap.size ≤ k
  aside : ∀ p ∈ w0.X, Blk w p.1 120 p.2 ∧ ¬ foot d b p.1

theorem St.step {w0 : Fr} {w w' : World} {d : Nat} {b : Bl} {D : DS} (h : St w0 d b D w) (m : Old w w') : St w0 d b D w' := ⟨h.dr.old m, h.old.trans m, h.new, fun p hp => ⟨(h.aside p hp).1.touch m (fun q => q), (h.aside p hp).2⟩⟩
/-- What a call leaves: the drum is D' then; blocks of other types are as they were. -/
def Next (w0 : Fr) (d : Nat) (D' : DS) (w w' : World) : Prop := (∃ b', St w0 d b' D' w') ∧ Kept w w' ∧ w.heap.size ≤ w'.heap.size
theorem St.next {w0 : Fr} {w w' : World} {d : Nat} {b : Bl} {D D' : DS} (h : St w0 d b D w) (m : Done d b D' w w') : Next w0 d D' w w' := by
  obtain ⟨b', hd, ht, hf⟩ := m
  refine ⟨⟨b', hd, ⟨ht.os.trans h.old.os, ht.tape.trans h.old.tape, ht.output.trans h.old.output, Nat.le_trans h.old.size ht.size, fun k hk hn => ?_⟩, fun k hk => ?_, fun p hp => ⟨(h.aside p hp).1.touch ht (h.aside p hp).2, fun hk => ?_⟩⟩, ⟨fun t g cs hto hb => ?_, fun g es cl hg => (ht.block g (Array.getElem?_eq_some_iff.1 hg).1 (fun q => h.dr.foot_cells q ⟨es, cl, hg⟩)).trans hg⟩, ht.size⟩
  · rw [ht.block k (Nat.lt_of_lt_of_le hk h.old.size) (fun q => by have := h.new k q; omega)]
    exact h.old.block k hk hn
  · rcases hf k hk with q | q
    · exact h.new k q
    · exact Nat.le_trans h.old.size q
  · rcases hf p.1 hk with q | q
    · exact (h.aside p hp).2 q
    · have := (h.aside p hp).1.lt; omega
  · exact hb.touch ht (h.dr.not_foot hb hto)

theorem new_st {w0 : Fr} {w : World} (n : Nat) (h1 : 10 ≤ n) (h2 : n ≤ 4096) (h : Old w0.w w) (hX : ∀ p ∈ w0.X, Blk w p.1 120 p.2) : Calls Tryz.prog 36 #[.int .i64 n] w fun e w' => ∃ d b, e = .returned (.tuple #[.pointer (some ⟨d, 0, none⟩), .int .i64 0]) ∧ St w0 d b (DS.new n) w' ∧ Old w w' :=
  (new_yes n h1 h2 w).mono fun _ _ ⟨d, b, he, hd, ho, hf⟩ => ⟨d, b, he, ⟨hd, h.trans ho, fun k hk => Nat.le_trans h.size (hf k hk), fun p hp => ⟨(hX p hp).touch ho (fun q => q), fun q => by have := hf _ q; have := (hX p hp).lt; omega⟩⟩, ho⟩

theorem blk_has {w : World} {g : Nat} {t : TypeId} {xs : List Nat} (hb : ∀ x ∈ xs, x < 256) (h : Blk w g t (cells xs)) : Has w (some ⟨g, 0, none⟩) xs :=
  ⟨hb, fun i hi => ⟨g, 0, rfl, by rw [Nat.zero_add, h.cell]; exact cells_get xs i hi⟩⟩

theorem lay_st {w0 : Fr} {w : World} {d : Nat} {b : Bl} {D : DS} (h : St w0 d b D w) (ht : D.turns ≤ 99999) (k g : Nat) (xs : List Nat) (hk : k < D.T.length) (hx : Trk xs) (K : Blk w g 5 (cells xs)) (cap : Nat) :
    Calls Tryz.prog 29 #[.pointer (some ⟨d, 0, none⟩), .int .i64 k, .slice (some ⟨g, 0, none⟩) 96 cap] w fun e w' => e = .returned (.int .i64 D.err) ∧ Next w0 d (D.lay k xs) w w' :=
  (lay_any d k b D w _ xs cap h.dr ht hk (blk_has hx.byte K) hx.len (fun g' o e => by cases e; exact h.dr.not_foot K (by unfold other; decide))).mono fun _ _ ⟨he, hd⟩ => ⟨he, h.next hd⟩
theorem settle_st {w0 : Fr} {w : World} {d : Nat} {b : Bl} {D : DS} (h : St w0 d b D w) (ht : D.turns ≤ 99999) :
    Calls Tryz.prog 30 #[.pointer (some ⟨d, 0, none⟩)] w fun e w' => e = .returned (.int .i64 D.err) ∧ Next w0 d D.settle w w' :=
  (settle_any d b D w h.dr ht).mono fun _ _ ⟨he, hd⟩ => ⟨he, h.next hd⟩
theorem break_st {w0 : Fr} {w : World} {d : Nat} {b : Bl} {D : DS} (h : St w0 d b D w) (n : Int) (hn : n ≤ 1000) :
    Calls Tryz.prog 24 #[.pointer (some ⟨d, 0, none⟩), .int .i64 n] w fun e w' => e = .returned (.tuple #[]) ∧ Next w0 d (D.brk (breakOf n)) w w' :=
  (break_any d b D n hn w h.dr).mono fun _ _ ⟨he, hd⟩ => ⟨he, h.next hd⟩
theorem fall_st {w0 : Fr} {w : World} {d : Nat} {b : Bl} {D : DS} (h : St w0 d b D w) (ht : D.turns ≤ 100000) (a : Option Addr) (ys : List Int) (len cap : Nat) (torn cut : Int) (hI : HasI w a ys) (hlen : ys.length = len) (hlm : len ≤ 9223372036854775806) :
    Calls Tryz.prog 26 #[.pointer (some ⟨d, 0, none⟩), .slice a len cap, .int .i64 torn, .int .i64 cut] w fun e w' => e = .returned (.tuple #[]) ∧ Next w0 d (D.fall (partOf ys torn cut)) w w' :=
  (fall_any d b D w a ys len cap torn cut h.dr ht hI hlen hlm).mono fun _ _ ⟨he, hd⟩ => ⟨he, h.next hd⟩
theorem look_st {w0 : Fr} {w : World} {d : Nat} {b : Bl} {D : DS} (h : St w0 d b D w) (k : Nat) (hk : k < D.T.length) (hd : D.down = false) :
    Calls Tryz.prog 28 #[.pointer (some ⟨d, 0, none⟩), .int .i64 k] w (Looked (D.seen.getD k []) w) :=
  look_ok d k b D D.seen w h.dr.at_ (DS.seen_trk h.dr.ok) hk (DS.seen_length D) hd

theorem blk_ints {w : World} {g : Nat} {xs : List Nat} (h : Blk w g 3 (ints xs)) : HasI w (some ⟨g, 0, none⟩) (xs.map fun (x : Nat) => (x : Int)) :=
  ⟨fun i hi => ⟨g, 0, rfl, by
    rw [List.length_map] at hi
    rw [Nat.zero_add, h.cell, ints_get xs i hi]
    simp [at0, List.getD_eq_getElem?_getD, List.getElem?_eq_getElem hi]⟩⟩
/-- Other budgets beside. -/
theorem St.base {w0 w1 : Fr} {w : World} {d : Nat} {b : Bl} {D : DS} (h : St w0 d b D w) (hw : w1.w = w0.w) (hX : ∀ p ∈ w1.X, Blk w p.1 120 p.2 ∧ ¬ foot d b p.1) : St w1 d b D w :=
  ⟨h.dr, by rw [hw]; exact h.old, by rw [hw]; exact h.new, hX⟩
end Go.Proofs.YtjajenkagcdhlaaGreat
