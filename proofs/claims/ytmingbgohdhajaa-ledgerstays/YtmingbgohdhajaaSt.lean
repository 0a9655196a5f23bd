/- A drum that a law made: its calls, and what stays beside it; lariatref7.SameInts. -/
import Derived.Test.YtmingbgohdhajaaFallW
namespace Go.Proofs.Ytmingbgohdhajaa
open Go.RowKit
set_option maxRecDepth 100000

/-- A type that no block of a drum has. -/
def other (t : TypeId) : Prop := t ≠ 90 ∧ t ≠ 102 ∧ t ≠ 81 ∧ t ≠ 104 ∧ t ≠ 137
/-- Blocks of other types are as they were. -/
def Kept (w w' : World) : Prop := ∀ t g cs, other t → Blk w g t cs → Blk w' g t cs
theorem Kept.refl (w : World) : Kept w w := fun _ _ _ _ h => h
theorem Kept.trans {a b c : World} (h : Kept a b) (k : Kept b c) : Kept a c := fun t g cs ht hb => k t g cs ht (h t g cs ht hb)
theorem Kept.of_old {w w' : World} (h : Old w w') : Kept w w' := fun _ _ _ _ hb => hb.touch h (fun q => q)
theorem Kept.bytes {w w' : World} (h : Kept w w') {g : Nat} {cs : List Value} (hb : Blk w g 5 cs) : Blk w' g 5 cs := h 5 g cs (by unfold other; decide) hb
theorem Kept.ints {w w' : World} (h : Kept w w') {g : Nat} {cs : List Value} (hb : Blk w g 3 cs) : Blk w' g 3 cs := h 3 g cs (by unfold other; decide) hb

theorem Dr.not_foot {d : Nat} {b : Bl} {D : DS} {w : World} (h : Dr d b D w) {g : Nat} {t : TypeId} {cs : List Value} (hb : Blk w g t cs) (ht : other t) : ¬ foot d b g := by
  obtain ⟨h1, h2, h3, h4, h5⟩ := ht
  rintro (e | e | e | e | e | e)
  · exact hb.ne h.at_.head h1 e
  · exact hb.ne h.at_.set h2 e
  · exact hb.ne h.at_.see h2 e
  · exact hb.ne h.at_.flag h3 e
  · exact own_blk h.at_.own hb (fun q => h4 q.symm) e
  · exact well_blk h.at_.well hb (fun q => h5 q.symm) e

/-- A drum of a law that began in w0. -/
structure St (w0 : World) (d : Nat) (b : Bl) (D : DS) (w : World) : Prop where
  dr : Dr d b D w
  old : Old w0 w
  new : ∀ k, foot d b k → w0.heap.size ≤ k

theorem St.step {w0 w w' : World} {d : Nat} {b : Bl} {D : DS} (h : St w0 d b D w) (m : Old w w') : St w0 d b D w' := ⟨h.dr.old m, h.old.trans m, h.new⟩
/-- What a call leaves: the drum is D' then; blocks of other types are as they were. -/
def Next (w0 : World) (d : Nat) (D' : DS) (w w' : World) : Prop := (∃ b', St w0 d b' D' w') ∧ Kept w w' ∧ w.heap.size ≤ w'.heap.size
theorem St.next {w0 w w' : World} {d : Nat} {b : Bl} {D D' : DS} (h : St w0 d b D w) (m : Done d b D' w w') : Next w0 d D' w w' := by
  obtain ⟨b', hd, ht, hf⟩ := m
  refine ⟨⟨b', hd, ⟨ht.os.trans h.old.os, ht.tape.trans h.old.tape, ht.output.trans h.old.output, Nat.le_trans h.old.size ht.size, fun k hk hn => ?_⟩, fun k hk => ?_⟩, fun t g cs hto hb => ?_, ht.size⟩
  · rw [ht.block k (Nat.lt_of_lt_of_le hk h.old.size) (fun q => by have := h.new k q; omega)]
    exact h.old.block k hk hn
  · rcases hf k hk with q | q
    · exact h.new k q
    · exact Nat.le_trans h.old.size q
  · exact hb.touch ht (h.dr.not_foot hb hto)

theorem new_st {w0 w : World} (n : Nat) (h1 : 10 ≤ n) (h2 : n ≤ 4096) (h : Old w0 w) : Calls Try.prog 11 #[.int .i64 n] w fun e w' => ∃ d b, e = .returned (.tuple #[.pointer (some ⟨d, 0, none⟩), .int .i64 0]) ∧ St w0 d b (DS.new n) w' ∧ Old w w' :=
  (new_yes n h1 h2 w).mono fun _ _ ⟨d, b, he, hd, ho, hf⟩ => ⟨d, b, he, ⟨hd, h.trans ho, fun k hk => Nat.le_trans h.size (hf k hk)⟩, ho⟩

theorem blk_has {w : World} {g : Nat} {t : TypeId} {xs : List Nat} (hb : ∀ x ∈ xs, x < 256) (h : Blk w g t (cells xs)) : Has w (some ⟨g, 0, none⟩) xs :=
  ⟨hb, fun i hi => ⟨g, 0, rfl, by rw [Nat.zero_add, h.cell]; exact cells_get xs i hi⟩⟩

theorem lay_st {w0 w : World} {d : Nat} {b : Bl} {D : DS} (h : St w0 d b D w) (ht : D.turns ≤ 99999) (k g : Nat) (xs : List Nat) (hk : k < D.T.length) (hx : Trk xs) (K : Blk w g 5 (cells xs)) (cap : Nat) :
    Calls Try.prog 35 #[.pointer (some ⟨d, 0, none⟩), .int .i64 k, .slice (some ⟨g, 0, none⟩) 96 cap] w fun e w' => e = .returned (.int .i64 D.err) ∧ Next w0 d (D.lay k xs) w w' :=
  (lay_any d k b D w _ xs cap h.dr ht hk (blk_has hx.byte K) hx.len (fun g' o e => by cases e; exact h.dr.not_foot K (by unfold other; decide))).mono fun _ _ ⟨he, hd⟩ => ⟨he, h.next hd⟩
theorem settle_st {w0 w : World} {d : Nat} {b : Bl} {D : DS} (h : St w0 d b D w) (ht : D.turns ≤ 99999) :
    Calls Try.prog 37 #[.pointer (some ⟨d, 0, none⟩)] w fun e w' => e = .returned (.int .i64 D.err) ∧ Next w0 d D.settle w w' :=
  (settle_any d b D w h.dr ht).mono fun _ _ ⟨he, hd⟩ => ⟨he, h.next hd⟩
theorem break_st {w0 w : World} {d : Nat} {b : Bl} {D : DS} (h : St w0 d b D w) (n : Int) (hn : n ≤ 1000) :
    Calls Try.prog 19 #[.pointer (some ⟨d, 0, none⟩), .int .i64 n] w fun e w' => e = .returned (.tuple #[]) ∧ Next w0 d (D.brk (breakOf n)) w w' :=
  (break_any d b D n hn w h.dr).mono fun _ _ ⟨he, hd⟩ => ⟨he, h.next hd⟩
theorem fall_st {w0 w : World} {d : Nat} {b : Bl} {D : DS} (h : St w0 d b D w) (ht : D.turns ≤ 100000) (a : Option Addr) (ys : List Int) (len cap : Nat) (torn cut : Int) (hI : HasI w a ys) (hlen : ys.length = len) (hlm : len ≤ 9223372036854775806) :
    Calls Try.prog 20 #[.pointer (some ⟨d, 0, none⟩), .slice a len cap, .int .i64 torn, .int .i64 cut] w fun e w' => e = .returned (.tuple #[]) ∧ Next w0 d (D.fall (partOf ys torn cut)) w w' :=
  (fall_any d b D w a ys len cap torn cut h.dr ht hI hlen hlm).mono fun _ _ ⟨he, hd⟩ => ⟨he, h.next hd⟩
theorem look_st {w0 w : World} {d : Nat} {b : Bl} {D : DS} (h : St w0 d b D w) (k : Nat) (hk : k < D.T.length) (hd : D.down = false) :
    Calls Try.prog 39 #[.pointer (some ⟨d, 0, none⟩), .int .i64 k] w (Looked (D.seen.getD k []) w) :=
  look_ok d k b D D.seen w h.dr.at_ (DS.seen_trk h.dr.ok) hk (DS.seen_length D) hd

theorem blk_ints {w : World} {g : Nat} {xs : List Nat} (h : Blk w g 3 (ints xs)) : HasI w (some ⟨g, 0, none⟩) (xs.map fun (x : Nat) => (x : Int)) :=
  ⟨fun i hi => ⟨g, 0, rfl, by
    rw [List.length_map] at hi
    rw [Nat.zero_add, h.cell, ints_get xs i hi]
    simp [at0, List.getD_eq_getElem?_getD, List.getElem?_eq_getElem hi]⟩⟩
end Go.Proofs.Ytmingbgohdhajaa
