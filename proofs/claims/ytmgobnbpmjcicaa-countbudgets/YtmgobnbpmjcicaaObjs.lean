/- A counter, a peak, a flag and a budget beside one another, and what each call does to them. -/
import Derived.Test.YtmgobnbpmjcicaaKnown
namespace Go.Proofs.Ytmgobnbpmjcicaa
open Go.RowKit Go.MuLone

/-- Nothing that was there in w0 has turned. -/
abbrev Old (w0 w : World) : Prop := Touch (fun _ => False) w0 w
theorem Touch.own {w0 w w' : World} {b : Nat} (h : Old w0 w) (m : Touch (fun k => k = b) w w') (hb : w0.heap.size ≤ b) : Old w0 w' :=
  ⟨m.os.trans h.os, m.tape.trans h.tape, m.output.trans h.output, Nat.le_trans h.size m.size, fun k hk hn => (m.block k (Nat.lt_of_lt_of_le hk h.size) (by omega)).trans (h.block k hk hn)⟩

/-- The four objects: the counter at c, the peak at p, the flag at f, the budget at b. -/
structure Objs (c p f b : Nat) (sum peak left all : Int) (up : Bool) (w0 w : World) : Prop where
  kc : Num c sum none w
  kp : Num p peak none w
  kf : Var f (.int .u32 (bit up)) w
  kb : Num b left (some (.int .i64 all)) w
  lo : w0.heap.size ≤ c
  cp : c < p
  pf : p < f
  fb : f < b
  old : Old w0 w
  s0 : 0 ≤ sum
  s1 : sum ≤ most
  l0 : 0 ≤ left
  l1 : left ≤ all
  l2 : all ≤ most

section
variable {c p f b : Nat} {sum peak left all : Int} {up' : Bool} {w0 w : World}

theorem Objs.same (S : Objs c p f b sum peak left all up' w0 w) {w' : World} (T : Old w w') : Objs c p f b sum peak left all up' w0 w' :=
  ⟨S.kc.touch T (fun h => h), S.kp.touch T (fun h => h), S.kf.touch T (fun h => h), S.kb.touch T (fun h => h), S.lo, S.cp, S.pf, S.fb, S.old.trans T, S.s0, S.s1, S.l0, S.l1, S.l2⟩

theorem Objs.other (S : Objs c p f b sum peak left all up' w0 w) {w' : World} {g : Nat} (T : Touch (fun k => k = g) w w') (hg : b < g) (h0 : w0.heap.size ≤ g) : Objs c p f b sum peak left all up' w0 w' := by
  have h1 := S.cp; have h2 := S.pf; have h3 := S.fb
  exact ⟨S.kc.touch T (by omega), S.kp.touch T (by omega), S.kf.touch T (by omega), S.kb.touch T (by omega), S.lo, S.cp, S.pf, S.fb, S.old.own T h0, S.s0, S.s1, S.l0, S.l1, S.l2⟩

theorem up_in (x n m : Int) (h0 : 0 ≤ x) (h1 : x ≤ m) : 0 ≤ up x n m ∧ up x n m ≤ m := by unfold up; omega
theorem taken_in (x n m : Int) (h0 : 0 ≤ x) (h1 : x ≤ m) : 0 ≤ taken x n ∧ taken x n ≤ m := by unfold taken; split <;> omega

theorem Objs.add (S : Objs c p f b sum peak left all up' w0 w) (n : Int) :
    Calls Try.prog 9 #[.pointer (some ⟨c, 0, none⟩), .int .i64 n] w fun e w' => e = .returned (.int .i64 (up sum n most)) ∧ Objs c p f b (up sum n most) peak left all up' w0 w' ∧ Touch (fun k => k = c) w w' := by
  refine (add_any c sum n _ S.s0 S.s1 w S.kc).mono ?_
  rintro e w' ⟨rfl, K, T⟩
  have h1 := S.cp; have h2 := S.pf; have h3 := S.fb
  exact ⟨rfl, ⟨K, S.kp.touch T (by omega), S.kf.touch T (by omega), S.kb.touch T (by omega), S.lo, S.cp, S.pf, S.fb, S.old.own T S.lo, (up_in _ _ _ S.s0 S.s1).1, (up_in _ _ _ S.s0 S.s1).2, S.l0, S.l1, S.l2⟩, T⟩

theorem Objs.note (S : Objs c p f b sum peak left all up' w0 w) (n : Int) :
    Calls Try.prog 10 #[.pointer (some ⟨p, 0, none⟩), .int .i64 n] w fun e w' => e = .returned (.bool (above peak n)) ∧ Objs c p f b sum (max peak n) left all up' w0 w' ∧ Touch (fun k => k = p) w w' := by
  refine (note_any p peak n _ w S.kp).mono ?_
  rintro e w' ⟨rfl, K, T⟩
  have h0 := S.lo; have h1 := S.cp; have h2 := S.pf; have h3 := S.fb
  exact ⟨rfl, ⟨S.kc.touch T (by omega), K, S.kf.touch T (by omega), S.kb.touch T (by omega), S.lo, S.cp, S.pf, S.fb, S.old.own T (by omega), S.s0, S.s1, S.l0, S.l1, S.l2⟩, T⟩

theorem Objs.raise (S : Objs c p f b sum peak left all up' w0 w) :
    Calls Try.prog 11 #[.pointer (some ⟨f, 0, none⟩)] w fun e w' => e = .returned (.bool (!up')) ∧ Objs c p f b sum peak left all true w0 w' ∧ Touch (fun k => k = f) w w' := by
  refine (raise_any f up' w S.kf).mono ?_
  rintro e w' ⟨rfl, K, T⟩
  have h0 := S.lo; have h1 := S.cp; have h2 := S.pf; have h3 := S.fb
  exact ⟨rfl, ⟨S.kc.touch T (by omega), S.kp.touch T (by omega), K, S.kb.touch T (by omega), S.lo, S.cp, S.pf, S.fb, S.old.own T (by omega), S.s0, S.s1, S.l0, S.l1, S.l2⟩, T⟩

theorem Objs.take (S : Objs c p f b sum peak left all up' w0 w) (n : Int) :
    Calls Try.prog 12 #[.pointer (some ⟨b, 0, none⟩), .int .i64 n] w fun e w' => e = .returned (.bool (can left n)) ∧ Objs c p f b sum peak (taken left n) all up' w0 w' ∧ Touch (fun k => k = b) w w' := by
  refine (take_any b left n _ S.l0 (Int.le_trans S.l1 S.l2) w S.kb).mono ?_
  rintro e w' ⟨rfl, K, T⟩
  have h0 := S.lo; have h1 := S.cp; have h2 := S.pf; have h3 := S.fb
  exact ⟨rfl, ⟨S.kc.touch T (by omega), S.kp.touch T (by omega), S.kf.touch T (by omega), K, S.lo, S.cp, S.pf, S.fb, S.old.own T (by omega), S.s0, S.s1, (taken_in _ _ _ S.l0 S.l1).1, (taken_in _ _ _ S.l0 S.l1).2, S.l2⟩, T⟩

theorem Objs.give (S : Objs c p f b sum peak left all up' w0 w) (n : Int) :
    Calls Try.prog 13 #[.pointer (some ⟨b, 0, none⟩), .int .i64 n] w fun e w' => e = .returned (.tuple #[]) ∧ Objs c p f b sum peak (up left n all) all up' w0 w' ∧ Touch (fun k => k = b) w w' := by
  refine (give_any b left n all S.l0 S.l1 S.l2 w S.kb).mono ?_
  rintro e w' ⟨rfl, K, T⟩
  have h0 := S.lo; have h1 := S.cp; have h2 := S.pf; have h3 := S.fb
  exact ⟨rfl, ⟨S.kc.touch T (by omega), S.kp.touch T (by omega), S.kf.touch T (by omega), K, S.lo, S.cp, S.pf, S.fb, S.old.own T (by omega), S.s0, S.s1, (up_in _ _ _ S.l0 S.l1).1, (up_in _ _ _ S.l0 S.l1).2, S.l2⟩, T⟩
end

theorem begins_in (n : Int) : 0 ≤ begins n ∧ begins n ≤ most := by unfold begins most; omega

/-- The three first ones, laid. -/
theorem objs_begin (w0 w w1 : World) (n : Int) (h : Old w0 w)
    (K : Num (w.heap.size + 3) (begins n) (some (.int .i64 (begins n))) w1)
    (T : Old (((w.alloc (.cells #[.int .i64 0] 29)).alloc (.cells #[.int .i64 0] 31)).alloc (.cells #[.int .u32 0] 36)) w1) :
    Objs w.heap.size (w.heap.size + 1) (w.heap.size + 2) (w.heap.size + 3) 0 0 (begins n) (begins n) false w0 w1 := by
  have c1 := (((Num.new w 0 29).alloc (.cells #[.int .i64 0] 31)).alloc (.cells #[.int .u32 0] 36)).touch T (fun h => h)
  have p1 := ((Num.new (w.alloc (.cells #[.int .i64 0] 29)) 0 31).alloc (.cells #[.int .u32 0] 36)).touch T (fun h => h)
  have f1 := (Var.new ((w.alloc (.cells #[.int .i64 0] 29)).alloc (.cells #[.int .i64 0] 31)) (.int .u32 0) 36).touch T (fun h => h)
  simp only [World.size_alloc] at p1 f1
  have hb := begins_in n
  exact ⟨c1, p1, f1, K, h.size, by omega, by omega, by omega, ((((h.alloc _).alloc _).alloc _)).trans T, by omega, by decide, hb.1, Int.le_refl _, hb.2⟩
end Go.Proofs.Ytmgobnbpmjcicaa
