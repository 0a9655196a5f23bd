/- The walk of lariatlaw1.OnceTables. -/
import Derived.Test.YtnhepceannajeaaTabG
namespace Go.Proofs.Ytnhepceannajeaa
open Go.RowKit Go.MuLone Go.Conc.Locks Go.Maps

/-- The askings that came in: of each its four numbers. -/
def AskRow (w : World) (a : Option Addr) (len : Nat) (q : Nat → Nat → Int) : Prop :=
  ∀ i, i < len → ∃ b off, a = some ⟨b, off, none⟩ ∧ b < w.heap.size ∧ (w.cell? ⟨b, off + i * 4, none⟩ = some (.int .i64 (q i 0)) ∧ w.cell? ⟨b, off + i * 4 + 1, none⟩ = some (.int .i64 (q i 1)) ∧ w.cell? ⟨b, off + i * 4 + 2, none⟩ = some (.int .i64 (q i 2)) ∧ w.cell? ⟨b, off + i * 4 + 3, none⟩ = some (.int .i64 (q i 3))) ∧ ∀ c, c < 4 → Fits (q i c)

structure TabsAt (B t bt bc bw : Nat) (mo : Option Nat) (c : Nat) (G : Slots) (x : Int) (w0 w : World) : Prop where
  st : St B t mo c G w
  want : Want bw c G w
  hm : ¬ mo = some bw
  vt : Var bt (.pointer (some ⟨t, 0, none⟩)) w
  vc : Var bc (.int .i64 x) w
  ntc : ¬ bt = bc
  noinl : ∀ k b, ¬ G k = some (.inl b)
  lowW : B ≤ bw
  lowC : B ≤ bc
  low : B ≤ w.heap.size
  below : Below B w0 w

section
variable {B t bt bc bw : Nat} {mo : Option Nat} {c : Nat} {G : Slots} {x : Int} {w0 w : World}
theorem TabsAt.grow (T : TabsAt B t bt bc bw mo c G x w0 w) {w' : World} (h : Touch (fun _ => False) w w') : TabsAt B t bt bc bw mo c G x w0 w' :=
  ⟨T.st.alloc h, T.want.touch h (fun h => h), T.hm, T.vt.touch h (fun h => h), T.vc.touch h (fun h => h), T.ntc, T.noinl, T.lowW, T.lowC, Nat.le_trans T.low h.size, T.below.trans (h.below T.low (fun _ _ h => h))⟩
theorem TabsAt.alloc (T : TabsAt B t bt bc bw mo c G x w0 w) (o : Obj) : TabsAt B t bt bc bw mo c G x w0 (w.alloc o) := T.grow ((Touch.refl _ w).alloc _)
theorem TabsAt.drew (T : TabsAt B t bt bc bw mo c G x w0 w) : TabsAt B t bt bc bw mo c G x w0 w.drew := T.grow (Touch.refl _ w).drew
end

/-- Behind the round's first lines: the asking, and its key. -/
structure AskAt (B t bt bc bw bx bk : Nat) (mo : Option Nat) (c : Nat) (G : Slots) (x : Int) (sk : ByteArray) (q0 q2 q3 : Int) (w0 w : World) : Prop where
  at' : TabsAt B t bt bc bw mo c G x w0 w
  vk : Var bk (.string sk) w
  x0 : Var bx (.int .i64 q0) w
  x2 : w.cell? ⟨bx, 2, none⟩ = some (.int .i64 q2)
  x3 : w.cell? ⟨bx, 3, none⟩ = some (.int .i64 q3)
  nk : ¬ bk = bc
  nx : ¬ bx = bc

theorem round_vars {B t bt bc bw : Nat} {mo : Option Nat} {c : Nat} {G : Slots} {x : Int} {w0 w : World} (T : TabsAt B t bt bc bw mo c G x w0 w) (q0 q1 q2 q3 : Int) (k1 : Nat) :
    AskAt B t bt bc bw w.heap.size (w.heap.size + 1 + 1) mo c G x (letter k1) q0 q2 q3 w0 (((w.alloc (.cells #[.int .i64 q0, .int .i64 q1, .int .i64 q2, .int .i64 q3] 34)).alloc (.cells #[.int .u8 (97 + k1)] 5)).alloc (.cells #[.string (letter k1)] 9)) := by
  obtain ⟨w2, hw2⟩ : ∃ w2, w2 = w.alloc (.cells #[.int .i64 q0, .int .i64 q1, .int .i64 q2, .int .i64 q3] 34) := ⟨_, rfl⟩
  have z2 : w2.heap.size = w.heap.size + 1 := by rw [hw2]; simp
  have c2 : ∀ o, w2.cell? ⟨w.heap.size, o, none⟩ = (#[Value.int .i64 q0, .int .i64 q1, .int .i64 q2, .int .i64 q3])[o]? := fun o => by rw [hw2, World.cell_new]
  have f2 : w2.frozen? ⟨w.heap.size, 0, none⟩ = false := by rw [hw2]; exact World.frozen_new _ _ _ _
  have T2 : TabsAt B t bt bc bw mo c G x w0 w2 := by rw [hw2]; exact T.alloc _
  have hlc : bc < w.heap.size := by have := lt_of_cell? T.vc.c; simpa using this
  rw [← hw2]
  clear hw2
  obtain ⟨w3, hw3⟩ : ∃ w3, w3 = w2.alloc (.cells #[.int .u8 (97 + k1)] 5) := ⟨_, rfl⟩
  have z3 : w3.heap.size = w.heap.size + 1 + 1 := by rw [hw3]; simp [z2]
  have t3 : Touch (fun _ => False) w2 w3 := by rw [hw3]; exact (Touch.refl _ _).alloc _
  rw [← hw3]
  clear hw3
  have t4 : Touch (fun _ => False) w3 (w3.alloc (.cells #[.string (letter k1)] 9)) := (Touch.refl _ _).alloc _
  have t24 := t3.trans t4
  have V2 : Var w.heap.size (.int .i64 q0) w2 := ⟨(c2 0).trans rfl, f2⟩
  have hl : w.heap.size < w2.heap.size := by omega
  refine ⟨T2.grow t24, ?_, V2.touch t24 (fun h => h), (t24.cell (p := ⟨w.heap.size, 2, none⟩) hl (fun h => h)).trans ((c2 2).trans rfl), (t24.cell (p := ⟨w.heap.size, 3, none⟩) hl (fun h => h)).trans ((c2 3).trans rfl), by omega, by omega⟩
  rw [← z3]
  exact Var.new _ _ _

theorem less_le (c : Nat) (y : Option (Nat ⊕ Int)) : less c y ≤ c := by
  match y with
  | none => exact Nat.le_refl _
  | some _ => exact Nat.sub_le _ _

theorem St.turned {B t : Nat} {mo : Option Nat} {c : Nat} {G : Slots} {w w' : World} {bw c' : Nat} {G' : Slots} (S : St B t mo c G w) (hw : Want bw c' G' w) (hm : ¬ mo = some bw) (h : w.mapTurned w' bw) : St B t mo c G w' :=
  S.other ((Touch.refl (fun k => k = bw) w).turned h (Or.inl rfl)) (fun k hk => by subst hk; exact hw.not S hm)

theorem Var.turned {k : Nat} {x : Value} {w w' : World} {bw c' : Nat} {G' : Slots} (V : Var k x w) (hw : Want bw c' G' w) (h : w.mapTurned w' bw) : Var k x w' :=
  V.touch ((Touch.refl (fun k => k = bw) w).turned h (Or.inl rfl)) (fun e => by
    subst e
    have := V.c
    rw [hw.noCell 0] at this
    cases this)

/-- A key is dropped, of the table and of what is wanted. -/
theorem tabs_drop {B t bt bc bw bx bk : Nat} {mo : Option Nat} {c : Nat} {G : Slots} {x : Int} {q0 q2 q3 : Int} {w0 w w6 : World} {k1 : Nat} (R : AskAt B t bt bc bw bx bk mo c G x (letter k1) q0 q2 q3 w0 w) (_k : Nat)
    (s6 : St B t mo (less c (G (lk k1))) (upd G (lk k1) none) w6) (m6 : Moves Nought B t mo w mo w6) :
    w6.cell? ⟨bk, 0, none⟩ = some (.string (letter k1)) ∧ ∃ w7, (Builtin.delete_ #[32, 9] 0 #[.map (some bw), .string (letter k1)]).run Try.prog w6 = .ok (.tuple #[]) w7 ∧
      Hid (TabsAt B t bt bc bw mo (less c (G (lk k1))) (upd G (lk k1) none) x w0 w7) := by
  have S := R.at'.st
  obtain ⟨W6, hm6⟩ := R.at'.want.moves S m6 R.at'.hm (fun h => h)
  have Vt6 := R.at'.vt.moves S m6 (plain_ptr _) (fun h => h)
  have Vc6 := R.at'.vc.moves S m6 (plain_int _) (fun h => h)
  have Vk6 := R.vk.moves S m6 (plain_string _) (fun h => h)
  obtain ⟨w7, hrun, W7, ht⟩ := want_del W6 (letter_size k1)
  have hT : Touch (fun k => k = bw) w6 w7 := (Touch.refl (fun k => k = bw) w6).turned ht (Or.inl rfl)
  have low6 : B ≤ w6.heap.size := Nat.le_trans R.at'.low m6.touch.size
  refine ⟨Vk6.c, w7, hrun, s6.turned W6 hm6 ht, W7, hm6, Vt6.turned W6 ht, Vc6.turned W6 ht, R.at'.ntc, fun k b => ?_, R.at'.lowW, R.at'.lowC, Nat.le_trans low6 hT.size, (R.at'.below.trans (m6.below R.at'.low (fun _ h => h.elim))).trans (hT.below low6 (fun k hk e => by have := R.at'.lowW; omega))⟩
  by_cases e : k = lk k1
  · subst e; rw [upd_same]; intro h; cases h
  · rw [upd_other _ _ e]; exact R.at'.noinl k b

/-- Behind the other key's line. -/
theorem ask_vars {B t bt bc bw bx bk : Nat} {mo : Option Nat} {c : Nat} {G : Slots} {x : Int} {q0 q2 q3 : Int} {w0 w : World} {sk : ByteArray} (R : AskAt B t bt bc bw bx bk mo c G x sk q0 q2 q3 w0 w) (k2 : Nat) :
    TabsAt B t bt bc bw mo c G x w0 ((w.alloc (.cells #[.int .u8 (97 + k2)] 5)).alloc (.cells #[.string (letter k2)] 9)) ∧
    TEnv t bt bc (w.heap.size + 1) bk bx (letter k2) sk q0 q2 q3 ((w.alloc (.cells #[.int .u8 (97 + k2)] 5)).alloc (.cells #[.string (letter k2)] 9)) := by
  obtain ⟨w3, hw3⟩ : ∃ w3, w3 = w.alloc (.cells #[.int .u8 (97 + k2)] 5) := ⟨_, rfl⟩
  have z3 : w3.heap.size = w.heap.size + 1 := by rw [hw3]; simp
  have t3 : Touch (fun _ => False) w w3 := by rw [hw3]; exact (Touch.refl _ _).alloc _
  rw [← hw3]
  clear hw3
  have t4 : Touch (fun _ => False) w3 (w3.alloc (.cells #[.string (letter k2)] 9)) := (Touch.refl _ _).alloc _
  have t24 := t3.trans t4
  have hl : bx < w.heap.size := by have := lt_of_cell? R.x2; simpa using this
  have hlc : bc < w.heap.size := by have := lt_of_cell? R.at'.vc.c; simpa using this
  refine ⟨R.at'.grow t24, R.at'.vt.touch t24 (fun h => h), ?_, R.vk.touch t24 (fun h => h), R.x0.touch t24 (fun h => h), (t24.cell (p := ⟨bx, 2, none⟩) hl (fun h => h)).trans R.x2, (t24.cell (p := ⟨bx, 3, none⟩) hl (fun h => h)).trans R.x3, R.at'.ntc, by omega, R.nk, R.nx⟩
  rw [← z3]
  exact Var.new _ _ _

/-- Behind the asking: the table has gone on, what is wanted has not yet. -/
structure GotAt (B t bt bc bo bw bx bk : Nat) (mo' : Option Nat) (c c' : Nat) (G G' : Slots) (x : Int) (so sk : ByteArray) (q0 q2 q3 : Int) (w0 w : World) : Prop where
  st : St B t mo' c' G' w
  want : Want bw c G w
  hm : ¬ mo' = some bw
  env : TEnv t bt bc bo bk bx so sk q0 q2 q3 w
  vc : Var bc (.int .i64 x) w
  noinl : ∀ k b, ¬ G' k = some (.inl b)
  lowW : B ≤ bw
  lowC : B ≤ bc
  low : B ≤ w.heap.size
  below : Below B w0 w

theorem step_noinl {G : Slots} {c : Nat} {k o : Lit} {q2 q3 v : Int} {G' : Slots} {c' d : Nat} (h : Step G c k o q2 q3 v G' c' d) (hG : ∀ k b, ¬ G k = some (.inl b)) : ∀ k b, ¬ G' k = some (.inl b) := by
  have hu : ∀ (G : Slots) (k : Lit) (v : Int), (∀ k b, ¬ G k = some (.inl b)) → ∀ k' b, ¬ upd G k (some (.inr v)) k' = some (.inl b) := by
    intro G k v hG k' b
    by_cases e : k' = k
    · subst e; rw [upd_same]; intro h; cases h
    · rw [upd_other _ _ e]; exact hG k' b
  rcases h with ⟨_, rfl, _⟩ | ⟨_, _, _, rfl, _⟩ | ⟨_, _, _, rfl, _⟩ | ⟨_, _, _, _, rfl, _⟩
  · exact hG
  · exact hu _ _ _ hG
  · exact hu _ _ _ hG
  · exact hu _ _ _ (hu _ _ _ hG)

theorem got_at {B t bt bc bo bw bx bk : Nat} {mo mo' : Option Nat} {c c' d : Nat} {G G' : Slots} {x : Int} {so sk : ByteArray} {q0 q2 q3 v : Int} {w0 w w8 : World} (T : TabsAt B t bt bc bw mo c G x w0 w) (E : TEnv t bt bc bo bk bx so sk q0 q2 q3 w)
    (h : Step G c (kl sk) (kl so) q2 q3 v G' c' d) (s8 : St B t mo' c' G' w8) (m8 : Moves (fun i => i = bc) B t mo w mo' w8) (V8 : Var bc (.int .i64 (x + (d : Int))) w8) :
    GotAt B t bt bc bo bw bx bk mo' c c' G G' (x + (d : Int)) so sk q0 q2 q3 w0 w8 := by
  obtain ⟨W8, hm8⟩ := T.want.moves T.st m8 T.hm (fun e => by
    have h1 := T.vc.c
    rw [← e, T.want.noCell 0] at h1
    cases h1)
  exact ⟨s8, W8, hm8, E.moves T.st m8, V8, step_noinl h T.noinl, T.lowW, T.lowC, Nat.le_trans T.low m8.touch.size, T.below.trans (m8.below T.low (fun k hk => hk ▸ T.lowC))⟩

theorem want_any {bw c : Nat} {G : Slots} {w : World} (h : Want bw c G w) {s : ByteArray} (hs : s.size ≤ 1000) (hn : ∀ b, ¬ G (kl s) = some (.inl b)) :
    ∃ (r : Int) (isb : Bool), (match G (kl s) with | some (.inr v) => r = v ∧ isb = true | _ => isb = false) ∧ (Instr.lookup 32 (.map (some bw)) (.string s) true).run Try.prog w = .ok (.tuple #[.int .i64 r, .bool isb]) w := by
  cases hg : G (kl s) with
  | none => exact ⟨0, false, rfl, want_miss h hs hg⟩
  | some y =>
    cases y with
    | inl b => exact absurd hg (hn b)
    | inr v => exact ⟨v, true, ⟨rfl, rfl⟩, (want_look h hs hg).1⟩

/-- A key that is new is wanted. -/
theorem GotAt.put {B t bt bc bo bw bx bk : Nat} {mo' : Option Nat} {c c' : Nat} {G G' : Slots} {x : Int} {so sk : ByteArray} {q0 q2 q3 : Int} {w0 w : World} (T : GotAt B t bt bc bo bw bx bk mo' c c' G G' x so sk q0 q2 q3 w0 w) (hc : c < 1000) {s : ByteArray} (hs : s.size ≤ 1000) (hg : G (kl s) = none) (v : Int) (hv : Fits v) :
    ∃ w', (Instr.mapUpdate 32 (.map (some bw)) (.string s) (.int .i64 v)).run Try.prog w = .ok () w' ∧ GotAt B t bt bc bo bw bx bk mo' (c + 1) c' (upd G (kl s) (some (.inr v))) G' x so sk q0 q2 q3 w0 w' := by
  obtain ⟨w', hrun, W', ht⟩ := want_put T.want hc hs hg v hv.wf
  have hT : Touch (fun k => k = bw) w w' := (Touch.refl (fun k => k = bw) w).turned ht (Or.inl rfl)
  have ne : ∀ {k : Nat} {y : Value}, w.cell? ⟨k, 0, none⟩ = some y → ¬ k = bw := fun h e => by
    subst e
    rw [T.want.noCell 0] at h
    cases h
  exact ⟨w', hrun, T.st.turned T.want T.hm ht, W', T.hm, T.env.touch hT (ne T.env.vt.c) (ne T.env.vo.c) (ne T.env.vk.c) (ne T.env.x0.c), T.vc.turned T.want ht, T.noinl, T.lowW, T.lowC, Nat.le_trans T.low hT.size, T.below.trans (hT.below T.low (fun k hk e => by have := T.lowW; omega))⟩

theorem wrap_eq (q : Int) : IntKind.i64.wrap q = wrap64 q := by rw [IntKind.wrap_i64]; unfold wrap64; rfl
theorem fits_wrap64 (q : Int) : Fits (wrap64 q) := by rw [← wrap_eq]; exact fits_wrap q
theorem letters_ne {k2 k1 : Nat} (h : ¬ kl (letter k2) = kl (letter k1)) : ((letter k2).toList == (letter k1).toList) = false ∧ ((letter k2).toList != (letter k1).toList) = true := by
  have hne : ¬ (letter k2).toList = (letter k1).toList := by
    intro e
    apply h
    show Lit.string (letter k2).data.toList = Lit.string (letter k1).data.toList
    rw [← ByteArray.toList_eq, ← ByteArray.toList_eq, e]
  exact ⟨by simpa using hne, by simpa using hne⟩

theorem step_val {G : Slots} {c : Nat} {k o : Lit} {q2 q3 v : Int} {G' : Slots} {c' d : Nat} (h : Step G c k o q2 q3 v G' c' d) : G' k = some (.inr v) ∧ d ≤ 2 ∧ c' ≤ c + 2 := by
  rcases h with ⟨hg, rfl, rfl, rfl⟩ | ⟨_, _, _, rfl, rfl, rfl⟩ | ⟨_, _, _, rfl, rfl, rfl⟩ | ⟨_, _, _, _, rfl, rfl, rfl⟩
  · exact ⟨hg, by omega, by omega⟩
  · exact ⟨upd_same _ _ _, by omega, by omega⟩
  · exact ⟨upd_same _ _ _, by omega, by omega⟩
  · exact ⟨upd_same _ _ _, by omega, by omega⟩

theorem GotAt.count {B t bt bc bo bw bx bk : Nat} {mo mo' : Option Nat} {c : Nat} {G : Slots} {x : Int} {so sk : ByteArray} {q0 q2 q3 : Int} {w0 w w' : World} (T : GotAt B t bt bc bo bw bx bk mo c c G G x so sk q0 q2 q3 w0 w) (s : St B t mo' c G w') (m : Moves Nought B t mo w mo' w') : TabsAt B t bt bc bw mo' c G x w0 w' := by
  obtain ⟨W, hm⟩ := T.want.moves T.st m T.hm (fun h => h)
  exact ⟨s, W, hm, T.env.vt.moves T.st m (plain_ptr _) (fun h => h), T.vc.moves T.st m (plain_int _) (fun h => h), T.env.nt, T.noinl, T.lowW, T.lowC, Nat.le_trans T.low m.touch.size, T.below.trans (m.below T.low (fun _ h => h.elim))⟩

theorem TabsAt.move {B t bt bc bw : Nat} {mo mo' : Option Nat} {c : Nat} {G : Slots} {x : Int} {w0 w w' : World} (T : TabsAt B t bt bc bw mo c G x w0 w) (s : St B t mo' c G w') (m : Moves Nought B t mo w mo' w') : TabsAt B t bt bc bw mo' c G x w0 w' := by
  obtain ⟨W, hm⟩ := T.want.moves T.st m T.hm (fun h => h)
  exact ⟨s, W, hm, T.vt.moves T.st m (plain_ptr _) (fun h => h), T.vc.moves T.st m (plain_int _) (fun h => h), T.ntc, T.noinl, T.lowW, T.lowC, Nat.le_trans T.low m.touch.size, T.below.trans (m.below T.low (fun _ h => h.elim))⟩

theorem tabs_begin (w w1 w3 : World) (hb : Below w.heap.size w w1)
    (hb3 : Below ((w1.alloc (.cells #[.int .i32 0, .int .u32 0, .map none] 61)).alloc (.cells #[.pointer (some ⟨w1.heap.size, 0, none⟩)] 25)).heap.size ((w1.alloc (.cells #[.int .i32 0, .int .u32 0, .map none] 61)).alloc (.cells #[.pointer (some ⟨w1.heap.size, 0, none⟩)] 25)) w3) :
    TabsAt w.heap.size w1.heap.size (w1.heap.size + 1) (w3.heap.size + 1) w3.heap.size none 0 (fun _ => none) 0 w ((w3.alloc (.map #[] 0)).alloc (.cells #[.int .i64 0] 3)) := by
  have hz1 := hb.size
  have hz3 := hb3.size
  simp at hz3
  obtain ⟨w2, hw2⟩ : ∃ w2, w2 = w1.alloc (.cells #[.int .i32 0, .int .u32 0, .map none] 61) := ⟨_, rfl⟩
  have S2 : St w.heap.size w1.heap.size none 0 (fun _ => none) w2 := by rw [hw2]; exact st_new _ w1 (by omega)
  have z2 : w2.heap.size = w1.heap.size + 1 := by rw [hw2]; simp
  have b2 : Below w.heap.size w w2 := by rw [hw2]; exact hb.alloc (by omega) _
  rw [← hw2] at hb3
  clear hw2
  have V2 : Var (w1.heap.size + 1) (.pointer (some ⟨w1.heap.size, 0, none⟩)) (w2.alloc (.cells #[.pointer (some ⟨w1.heap.size, 0, none⟩)] 25)) := by rw [← z2]; exact Var.new _ _ _
  have T3 : Touch (fun _ => False) (w2.alloc (.cells #[.pointer (some ⟨w1.heap.size, 0, none⟩)] 25)) w3 := ⟨hb3.os, hb3.tape, hb3.output, hb3.size, fun k hk _ => hb3.block k hk⟩
  have T2 : Touch (fun _ => False) w2 (w2.alloc (.cells #[.pointer (some ⟨w1.heap.size, 0, none⟩)] 25)) := (Touch.refl _ _).alloc _
  obtain ⟨w4, hw4⟩ : ∃ w4, w4 = w3.alloc (.map #[] 0) := ⟨_, rfl⟩
  have W4 : Want w3.heap.size 0 (fun _ => none) w4 := by rw [hw4]; exact want_made w3
  have T4 : Touch (fun _ => False) w3 w4 := by rw [hw4]; exact (Touch.refl _ _).alloc _
  have z4 : w4.heap.size = w3.heap.size + 1 := by rw [hw4]; simp
  rw [← hw4]
  clear hw4
  have T5 : Touch (fun _ => False) w4 (w4.alloc (.cells #[.int .i64 0] 3)) := (Touch.refl _ _).alloc _
  have T35 := T3.trans (T4.trans T5)
  have T25 := T2.trans T35
  refine ⟨S2.alloc T25, W4.touch T5 (fun h => h), (fun h => by cases h), V2.touch T35 (fun h => h), ?_, by omega, (fun _ _ h => by cases h), by omega, by omega, by simp; omega, b2.trans (T25.below (by omega) (fun _ _ h => h))⟩
  rw [← z4]
  exact Var.new _ _ _

set_option maxRecDepth 100000 in
set_option maxHeartbeats 1600000 in
theorem tables_law (a0 : Option Addr) (len0 cap0 : Nat) (w : World) (q : Nat → Nat → Int) (hr : AskRow w a0 len0 q) :
    Calls Try.prog 4 #[.slice a0 len0 cap0] w fun e w' => e = .returned (.bool true) ∧ Below w.heap.size w w' := by
  have hm := make_func
  have hn := hnot
  have hmm := @run_makeMap Try.prog
  have HR := Lib.hid hr
  clear hr
  go_enter Try.func4, Try.ntmps4
  go_wp2_with fail
  refine (known_any _).mono ?_
  rintro e w1 ⟨rfl, hb1⟩
  have Hb1 := Lib.hid hb1
  clear hb1
  go_wp2_with fail
  refine (newTable_any _).mono ?_
  rintro e w2 ⟨rfl, rfl⟩
  go_wp2_with fail
  refine (known_any _).mono ?_
  rintro e w3 ⟨rfl, hb3⟩
  have T3 := Lib.hid (tabs_begin w w1 w3 Hb1.out hb3)
  have hc3 : w3.cell? ⟨w1.heap.size + 1, 0, none⟩ = some (.pointer (some ⟨w1.heap.size, 0, none⟩)) := by
    rw [hb3.cell (p := ⟨w1.heap.size + 1, 0, none⟩) (by simp)]
    have e : w1.heap.size + 1 = (w1.alloc (.cells #[.int .i32 0, .int .u32 0, .map none] 61)).heap.size := by simp
    rw [e, World.cell_new]; rfl
  clear hb3 Hb1
  go_wp2_with fail
  clear hc3 hmm
  generalize w1.heap.size = t at *
  generalize w3.heap.size = bw at *
  go_loopw [6, 7] (fun d i wr => ∃ (i' D : Nat), i' ≤ 50 ∧ D ≤ 2 * i' ∧ d = .int .i64 D ∧ i = .int .i64 i' ∧ Hid (∃ mo c G, c ≤ 2 * i' ∧ TabsAt w.heap.size t (t + 1) (bw + 1) bw mo c G D w wr)) (fun _ i _ => 50 - (intOf i).toNat)
  case atStart => exact ⟨0, 0, by omega, by omega, rfl, rfl, ⟨none, 0, _, Nat.le_refl _, T3.out⟩⟩
  case round =>
    obtain ⟨i, D, hi, hD, rfl, rfl, HT⟩ := hrel
    clear T3
    obtain ⟨mo, c, G, hc, T⟩ := HT.out
    have T4 := Lib.hid T
    clear T HT
    by_cases hlt : i < len0 ∧ i < 50
    · obtain ⟨h1, h2⟩ := hlt
      obtain ⟨b, off, ha, hb, ⟨g0, g1, g2, g3⟩, hfit⟩ := HR.out i h1
      subst ha
      have f0 := hfit 0 (by omega)
      have f1 := hfit 1 (by omega)
      have F2 := Lib.hid (hfit 2 (by omega))
      have F3 := Lib.hid (hfit 3 (by omega))
      replace g0 := (T4.out.below.cell (p := ⟨b, off + i * 4, none⟩) hb).trans g0
      replace g1 := (T4.out.below.cell (p := ⟨b, off + i * 4 + 1, none⟩) hb).trans g1
      replace g2 := (T4.out.below.cell (p := ⟨b, off + i * 4 + 2, none⟩) hb).trans g2
      replace g3 := (T4.out.below.cell (p := ⟨b, off + i * 4 + 3, none⟩) hb).trans g3
      have hii : (0 : Int) ≤ (i : Int) := by omega
      have hil : (i : Int) < (len0 : Int) := by omega
      have hi50 : (i : Int) < 50 := by omega
      generalize q i 0 = q0 at *
      generalize q i 1 = q1 at *
      generalize q i 2 = q2 at *
      generalize q i 3 = q3 at *
      clear hfit f0 f1
      go_wp2_with fail
      refine (pick_any _ _ (by omega) (by omega) _).mono ?_
      rintro e w5 ⟨k1, hk1, rfl, rfl⟩
      have hcv := conv_new (wr.alloc (.cells #[.int .i64 q0, .int .i64 q1, .int .i64 q2, .int .i64 q3] 34)) k1 (by omega)
      simp only [World.size_alloc] at hcv
      have R5 := Lib.hid (round_vars T4.out q0 q1 q2 q3 k1)
      clear g0 g1 g2 g3 T4
      go_wp2_with fail
      clear hcv
      obtain ⟨W, hW⟩ : ∃ W, W = ((wr.alloc (.cells #[.int .i64 q0, .int .i64 q1, .int .i64 q2, .int .i64 q3] 34)).alloc (.cells #[.int .u8 (97 + k1)] 5)).alloc (.cells #[.string (letter k1)] 9) := ⟨_, rfl⟩
      rw [← hW] at R5
      rw [← hW]
      clear hW
      refine (pick_any _ _ (by omega) (by omega) _).mono ?_
      rintro e w5 ⟨k0, hk0, rfl, rfl⟩
      have hvt := R5.out.at'.vt.c
      have hvk := R5.out.vk.c
      by_cases hk6 : k0 = 6
      · have hb6 : ((k0 : Int) == 6) = true := by simp; omega
        go_wp2_with fail
        refine (drop_st _ _ _ _ _ (letter k1) (letter_size k1) _ R5.out.at'.st).mono ?_
        rintro e w6 ⟨rfl, s6, m6⟩
        obtain ⟨hvk6, w7, hrun, T7⟩ := tabs_drop R5.out k1 s6 m6
        clear s6 m6 hvt hvk R5
        go_wp2_with fail
        clear hrun hvk6
        go_roundw
        case rel => exact ⟨i + 1, D, by omega, by omega, rfl, by go_num, ⟨_, _, _, by have := less_le c (G (lk k1)); omega, T7.out⟩⟩
        case measure => simp [intOf]; omega
      · have hb6 : ((k0 : Int) == 6) = false := by simp; omega
        have hx3 := R5.out.x3
        go_wp2_with fail
        refine (pick_any _ _ (by omega) (by omega) _).mono ?_
        rintro e w6 ⟨k2, hk2, rfl, rfl⟩
        have hcv := conv_new W k2 (by omega)
        obtain ⟨R6', E6'⟩ := ask_vars R5.out k2
        have R6 := Lib.hid R6'
        have E6 := Lib.hid E6'
        have hvt6 := E6'.vt.c
        have hvk6 := E6'.vk.c
        clear R6' E6' hx3 hvt hvk R5
        go_wp2_with fail
        generalize wr.heap.size = bx at *
        generalize W.heap.size = bo at *
        refine (tables_get _ _ _ _ _ _ _ (letter k2) (letter k1) (letter_size k2) (letter_size k1) q0 q2 q3 D F2.out F3.out ⟨by omega, by omega⟩ mo c (by omega) G R6.out.noinl _ R6.out.st E6.out R6.out.vc).mono ?_
        rintro e w8 ⟨v, G', c', d, mo', rfl, hstep, s8, m8, V8⟩
        have T8 := Lib.hid (got_at R6.out E6.out hstep s8 m8 V8)
        have R8noinl := R6.out.noinl (lk k1)
        have HS := Lib.hid hstep
        clear hstep s8 m8 V8 R6 E6 hcv hvt6 hvk6
        have hk8 := T8.out.env.vk.c
        obtain ⟨r, isb, hib, hlook⟩ := want_any T8.out.want (s := letter k1) (letter_size k1) R8noinl
        have Hib := Lib.hid hib
        clear hib
        go_upto_if 79 with (fail)
        go_cut [6, 14, 15, 16] (fun d' _ _ _ wx => d' = .int .i64 ((D : Int) + (d : Int)) ∧ Hid (GotAt w.heap.size t (t + 1) (bw + 1) (bo + 1) bw bx (bx + 1 + 1) mo' c' c' G' G' ((D : Int) + (d : Int)) (letter k2) (letter k1) q0 q2 q3 w wx))
        case first =>
          rcases HS.out with ⟨hg, hG, hc', hd⟩ | ⟨hg, ho, hv, hG, hc', hd⟩ | ⟨hg, ho, ⟨u, hgo, hv⟩, hG, hc', hd⟩ | ⟨hg, ho, hgo, hv, hG, hc', hd⟩
          · have hib := Hib.out
            rw [hg] at hib
            obtain ⟨rfl, rfl⟩ := hib
            have F : Hid (GotAt w.heap.size t (t + 1) (bw + 1) (bo + 1) bw bx (bx + 1 + 1) mo' c' c' G' G' ((D : Int) + (d : Int)) (letter k2) (letter k1) q0 q2 q3 w w8) := by
              have := T8.out
              rw [← hG, ← hc'] at this
              exact this
            have hd0 : (D : Int) = (D : Int) + (d : Int) := by omega
            have HD0 := Lib.hid hd0
            clear hG hc' hd hg T8 HS hlook hk8 hd0
            go_wp2_with fail
            go_meet
            exact ⟨congrArg (Value.int .i64) HD0.out, F⟩
          · have hib := Hib.out
            rw [hg] at hib
            subst hib
            have hks : k2 = k1 := lk_inj (by omega) (by omega) ho
            obtain ⟨w9, hrun, T9⟩ := T8.out.put (by omega) (letter_size k1) hg q2 F2.out
            have F : Hid (GotAt w.heap.size t (t + 1) (bw + 1) (bo + 1) bw bx (bx + 1 + 1) mo' c' c' G' G' ((D : Int) + (d : Int)) (letter k2) (letter k1) q0 q2 q3 w w9) := by
              have e : upd G (lk k1) (some (.inr q2)) = G' := by rw [hG, hv]
              have h9 := T9
              rw [e, ← hc'] at h9
              exact h9
            have HD0 : Hid ((D : Int) + 1 = (D : Int) + (d : Int)) := by show _ = _; omega
            have hx2 := T8.out.env.x2
            have ho8 := T8.out.env.vo.c
            rw [hks] at ho8
            clear hG hc' hd hg HS hlook T9 hv ho hks
            go_wp2_with fail
            go_meet
            exact ⟨congrArg (Value.int .i64) HD0.out, F⟩
          · have hib := Hib.out
            rw [hg] at hib
            subst hib
            obtain ⟨hl1, hl2⟩ := want_look T8.out.want (letter_size k2) hgo
            obtain ⟨w9, hrun, T9⟩ := T8.out.put (by omega) (letter_size k1) hg (wrap64 (q2.tdiv 2 + u)) (fits_wrap64 _)
            have F : Hid (GotAt w.heap.size t (t + 1) (bw + 1) (bo + 1) bw bx (bx + 1 + 1) mo' c' c' G' G' ((D : Int) + (d : Int)) (letter k2) (letter k1) q0 q2 q3 w w9) := by
              have e : upd G (lk k1) (some (.inr (wrap64 (q2.tdiv 2 + u)))) = G' := by rw [hG, hv, wrap_eq]
              have h9 := T9
              rw [e, ← hc'] at h9
              exact h9
            have HD0 : Hid ((D : Int) + 1 = (D : Int) + (d : Int)) := by show _ = _; omega
            have hx2 := T8.out.env.x2
            have ho8 := T8.out.env.vo.c
            obtain ⟨hs1, hs2⟩ := letters_ne ho
            obtain ⟨hq20, hq21⟩ := F2.out
            clear hG hc' hd hg HS hlook T9 hv ho hgo
            go_wp2_with fail
            go_meet
            exact ⟨congrArg (Value.int .i64) HD0.out, F⟩
          · have hib := Hib.out
            rw [hg] at hib
            subst hib
            have hl1 := want_miss T8.out.want (letter_size k2) hgo
            obtain ⟨w9, hrun9, T9⟩ := T8.out.put (by omega) (letter_size k2) hgo (q3.tdiv 3) F3.out.div3
            have hl2 := (want_look T9.want (letter_size k2) (upd_same _ _ _)).2
            obtain ⟨w10, hrun, T10⟩ := T9.put (by omega) (letter_size k1) (by rw [upd_other _ _ (fun h => ho h.symm)]; exact hg) (wrap64 (q2.tdiv 2 + q3.tdiv 3)) (fits_wrap64 _)
            have F : Hid (GotAt w.heap.size t (t + 1) (bw + 1) (bo + 1) bw bx (bx + 1 + 1) mo' c' c' G' G' ((D : Int) + (d : Int)) (letter k2) (letter k1) q0 q2 q3 w w10) := by
              have e : upd (upd G (lk k2) (some (.inr (q3.tdiv 3)))) (lk k1) (some (.inr (wrap64 (q2.tdiv 2 + q3.tdiv 3)))) = G' := by rw [hG, hv, wrap_eq]
              have h9 := T10
              rw [e, ← hc'] at h9
              exact h9
            have HD0 : Hid ((D : Int) + 1 + 1 = (D : Int) + (d : Int)) := by show _ = _; omega
            have hx2 := T8.out.env.x2
            have hx3 := T8.out.env.x3
            have ho8 := T8.out.env.vo.c
            have hx29 := T9.env.x2
            have ho9 := T9.env.vo.c
            have hk9 := T9.env.vk.c
            obtain ⟨hs1, hs2⟩ := letters_ne ho
            obtain ⟨hq20, hq21⟩ := F2.out
            obtain ⟨hq30, hq31⟩ := F3.out
            clear hG hc' hd hg HS hlook T9 T10 hv ho hgo
            go_wp2_with fail
            go_meet
            exact ⟨congrArg (Value.int .i64) HD0.out, F⟩
        case rest =>
          obtain ⟨rfl, F⟩ := hcut
          obtain ⟨hgk, hdd, hcc⟩ := step_val HS.out
          have hl := (want_look F.out.want (letter_size k1) hgk).2
          have hkc := F.out.env.vk.c
          have hcc2 := F.out.vc.c
          have htc := F.out.env.vt.c
          clear T8 HS hlook hk8 hgk Hib
          go_wp2_with fail
          refine (count_st _ _ _ _ _ _ F.out.st).mono ?_
          rintro e w11 ⟨rfl, s11, m11⟩
          have T11 := Lib.hid (F.out.count s11 m11)
          have hlen := want_len T11.out.want
          clear s11 m11 F hl hkc hcc2 htc
          go_wp2_with fail
          clear hlen
          go_loopw [17] (fun k wx => ∃ k' : Nat, k' ≤ 6 ∧ k = .int .i64 k' ∧ Hid (∃ mo, TabsAt w.heap.size t (t + 1) (bw + 1) bw mo c' G' ((D : Int) + (d : Int)) w wx)) (fun k _ => 6 - (intOf k).toNat)
          case atStart => exact ⟨0, by omega, rfl, ⟨_, T11.out⟩⟩
          case round =>
            obtain ⟨k, hk, rfl, HT⟩ := hrel
            obtain ⟨mo12, T⟩ := HT.out
            have T12 := Lib.hid T
            clear T HT T11
            by_cases hk6' : k < 6
            · have hcv := conv_new wr k (by omega)
              have T13 := Lib.hid (T12.out.alloc (.cells #[.int .u8 (97 + k)] 5))
              have htc := T13.out.vt.c
              have hnl := T13.out.noinl (lk k)
              clear T12
              cases hgk : G' (lk k) with
              | none =>
                have hl := want_miss T13.out.want (letter_size k) hgk
                have Hgk := Lib.hid hgk
                clear hgk hnl
                go_wp2_with fail
                refine (made_st_no _ _ _ _ _ (letter k) (letter_size k) _ T13.out.st Hgk.out).mono ?_
                rintro e w14 ⟨rfl, s14, m14⟩
                have T14 := Lib.hid (T13.out.move s14 m14)
                clear s14 m14 hl hcv htc T13
                go_wp2_with fail
                go_roundw
                case rel => exact ⟨k + 1, by omega, by go_num, ⟨_, T14.out⟩⟩
                case measure => simp [intOf]; omega
              | some y =>
                cases y with
                | inl b' => exact absurd hgk (hnl b')
                | inr v' =>
                  have hl := (want_look T13.out.want (letter_size k) hgk).1
                  have Hgk := Lib.hid hgk
                  clear hgk hnl
                  go_wp2_with fail
                  refine (made_st_yes _ _ _ _ _ (letter k) (letter_size k) _ T13.out.st v' Hgk.out).mono ?_
                  rintro e w14 ⟨rfl, s14, m14⟩
                  have T14 := Lib.hid (T13.out.move s14 m14)
                  clear s14 m14 hl hcv htc T13
                  go_wp2_with fail
                  go_roundw
                  case rel => exact ⟨k + 1, by omega, by go_num, ⟨_, T14.out⟩⟩
                  case measure => simp [intOf]; omega
            · have T15 : Hid (∃ mo c G, c ≤ 2 * (i + 1) ∧ TabsAt w.heap.size t (t + 1) (bw + 1) bw mo c G ((D + d : Nat) : Int) w wr) := ⟨mo12, c', G', by omega, by simpa using T12.out⟩
              clear T12
              go_wp2_with fail
              go_roundw
              case rel => exact ⟨i + 1, D + d, by omega, by omega, by simp, by go_num, T15⟩
              case measure => simp [intOf]; omega
    · have HB := Lib.hid T4.out.below
      have hout : (i < len0 ∧ 50 ≤ i) ∨ len0 ≤ i := by omega
      clear hlt T4
      rcases hout with ⟨h1, h2⟩ | h1
      all_goals
        go_wp2_with fail
        go_ret
        exact ⟨rfl, HB.out⟩
end Go.Proofs.Ytnhepceannajeaa
