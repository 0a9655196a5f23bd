/- The walk of lariatlaw1.OnceKnown. -/
import Derived.Test.YtnhepceannajeaaSt
namespace Go.Proofs.Ytnhepceannajeaa
open Go.RowKit Go.MuLone Go.Conc.Locks Go.Maps

/-- A variable of the law's own that lies in a block of its own. -/
structure Var (k : Nat) (x : Value) (w : World) : Prop where
  c : w.cell? ⟨k, 0, none⟩ = some x
  f : w.frozen? ⟨k, 0, none⟩ = false

/-- A value that is neither a cell's nor a table's first one. -/
def Plain (x : Value) : Prop := (∀ d, ¬ x = .int .u32 d) ∧ ¬ x = .int .i32 0

theorem plain_int (x : Int) : Plain (.int .i64 x) := ⟨fun d h => by simp at h, fun h => by simp at h⟩
theorem plain_ptr (x : Option Addr) : Plain (.pointer x) := ⟨fun d h => (by simp at h), fun h => (by simp at h)⟩

theorem Var.moves {X : Nat → Prop} {B t : Nat} {mo mo' : Option Nat} {c : Nat} {G : Slots} {w w' : World} {k : Nat} {x : Value} (h : Var k x w) (S : St B t mo c G w) (m : Moves X B t mo w mo' w') (hp : Plain x) (hX : ¬ X k) : Var k x w' := by
  have hl : k < w.heap.size := lt_of_cell? h.c
  have hn : ¬ (MS B t mo w k ∨ X k) := fun h' => h'.elim (S.not h.c hp.1 hp.2) hX
  exact ⟨(m.touch.cell (p := ⟨k, 0, none⟩) hl hn).trans h.c, (m.touch.frozen (p := ⟨k, 0, none⟩) hl hn).trans h.f⟩

theorem Var.touch {S : Nat → Prop} {w w' : World} {k : Nat} {x : Value} (h : Var k x w) (m : Touch S w w') (hn : ¬ S k) : Var k x w' := by
  have hl : k < w.heap.size := lt_of_cell? h.c
  exact ⟨(m.cell (p := ⟨k, 0, none⟩) hl hn).trans h.c, (m.frozen (p := ⟨k, 0, none⟩) hl hn).trans h.f⟩

theorem Var.set {w : World} {k : Nat} {x : Value} (h : Var k x w) (y : Value) : Var k y (w.setCell ⟨k, 0, none⟩ y) :=
  ⟨World.cell?_setCell_same _ _ _ h.c, by simp [h.f]⟩

theorem Var.setOther {w : World} {k k' : Nat} {x : Value} (h : Var k x w) (hne : ¬ k = k') (y : Value) : Var k x (w.setCell ⟨k', 0, none⟩ y) :=
  h.touch ((Touch.refl (fun i => i = k') w).setCell (p := ⟨k', 0, none⟩) (Or.inl rfl) _) hne

theorem St.set {B t : Nat} {mo : Option Nat} {c : Nat} {G : Slots} {w : World} {k : Nat} {x : Value} (S : St B t mo c G w) (h : Var k x w) (hp : Plain x) (y : Value) : St B t mo c G (w.setCell ⟨k, 0, none⟩ y) :=
  S.other ((Touch.refl (fun i => i = k) w).setCell (p := ⟨k, 0, none⟩) (Or.inl rfl) _) (fun i hi => by subst hi; exact S.not h.c hp.1 hp.2)

theorem answers_mono {k : FuncId} {a : Array Value} {w : World} {R R' : Int → World → Prop} (h : Calls Try.prog k a w (Answers R)) (hr : ∀ v w', R v w' → R' v w') : Calls Try.prog k a w (Answers R') :=
  h.mono (fun _ _ ⟨v, e, r⟩ => ⟨v, e, hr v _ r⟩)

theorem enters12 (args : Array Value) (w : World) : (callFunc 12 args).run Try.prog w = .ok (.enter 12 args) w := run_callFunc_enter Try.func12 (by kernel_rfl) rfl args w
theorem enters13 (args : Array Value) (w : World) : (callFunc 13 args).run Try.prog w = .ok (.enter 13 args) w := run_callFunc_enter Try.func13 (by kernel_rfl) rfl args w
theorem enters14 (args : Array Value) (w : World) : (callFunc 14 args).run Try.prog w = .ok (.enter 14 args) w := run_callFunc_enter Try.func14 (by kernel_rfl) rfl args w
theorem enters18 (args : Array Value) (w : World) : (callFunc 18 args).run Try.prog w = .ok (.enter 18 args) w := run_callFunc_enter Try.func18 (by kernel_rfl) rfl args w

theorem ok_in (bc : Nat) (w : World) (V : Var bc (.int .i64 1) w) :
    Calls Try.prog 13 #[.pointer (some ⟨bc, 0, none⟩)] w (Answers fun v w' => v = 10 ∧ w' = w.setCell ⟨bc, 0, none⟩ (.int .i64 2)) := by
  have hc := V.c
  have hf := V.f
  go_enter Try.func13, Try.ntmps13
  go_wp2
  go_ret
  exact ⟨10, rfl, rfl, rfl⟩

theorem ok_18 (w : World) : Calls Try.prog 18 #[] w (Answers fun v w' => v = 5 ∧ w' = w) := by
  go_enter Try.func18, Try.ntmps18
  go_wp2
  go_ret
  exact ⟨5, rfl, rfl, rfl⟩

theorem call_nil_answers (w : World) : Calls Try.prog 42 #[.nilFunc] w (Answers fun v w' => v = 0 ∧ w' = w) :=
  (call_nil w).mono (fun _ _ ⟨e, h⟩ => ⟨0, e, rfl, h.symm⟩)

abbrev sA : ByteArray := ⟨#[97]⟩
abbrev sB : ByteArray := ⟨#[98]⟩
abbrev sC : ByteArray := ⟨#[99]⟩
abbrev sD : ByteArray := ⟨#[100]⟩
abbrev sN : ByteArray := ⟨#[110, 111, 110, 101]⟩

theorem upd_upd (G : Slots) (k : Lit) (x y : Option (Nat ⊕ Int)) : upd (upd G k x) k y = upd G k y := by
  funext k'
  by_cases h : k' = k
  · subst h; rw [upd_same, upd_same]
  · rw [upd_other _ _ h, upd_other _ _ h, upd_other _ _ h]

theorem moves_set {X : Nat → Prop} {B t : Nat} {mo : Option Nat} {w : World} {k : Nat} (hX : X k) (y : Value) : Moves X B t mo w mo (w.setCell ⟨k, 0, none⟩ y) :=
  ⟨(Touch.refl _ w).setCell (p := ⟨k, 0, none⟩) (Or.inl (Or.inr hX)) _, Or.inl rfl⟩

set_option maxHeartbeats 800000 in
theorem ok_out (B t bc bt : Nat) (hbt : ¬ bt = bc) (mo1 : Option Nat) (c1 : Nat) (hc1 : c1 < 1000) (G1 : Slots) (w : World) (S : St B t mo1 c1 G1 w) (hB : G1 (kl sB) = none)
    (Vc : Var bc (.int .i64 0) w) (Vt : Var bt (.pointer (some ⟨t, 0, none⟩)) w) :
    Calls Try.prog 12 #[.pointer (some ⟨bc, 0, none⟩), .pointer (some ⟨bt, 0, none⟩)] w
      (Answers fun v w' => v = 11 ∧ ∃ mo2, St B t mo2 (c1 + 1) (upd G1 (kl sB) (some (.inr 10))) w' ∧ Moves (fun k => k = bc) B t mo1 w mo2 w' ∧ Var bc (.int .i64 2) w') := by
  have hc := Vc.c
  have hf := Vc.f
  have Vt1 := Vt.setOther hbt (.int .i64 1)
  have hct := Vt1.c
  have S1 := Lib.hid (S.set Vc (plain_int _) (.int .i64 1))
  have Vc1 := Lib.hid (Vc.set (.int .i64 1))
  have hm := make_func
  clear S Vc Vt Vt1
  go_enter Try.func12, Try.ntmps12
  go_wp2_with fail
  refine (get_st_new (fun k => k = bc) B t mo1 c1 G1 sB (by decide) (by omega) _ (Or.inl ⟨_, _, _, rfl⟩) _ S1.out hB
    (fun b mo1' w1 v mo2 c2 G2 w2 => v = 10 ∧ mo2 = mo1' ∧ c2 = c1 + 1 ∧ G2 = upd G1 (kl sB) (some (.inl b)) ∧ Var bc (.int .i64 2) w2) ?_).mono ?_
  · intro b mo1' w1 s1 m1
    have V1 : Var bc (.int .i64 1) w1 := Vc1.out.moves S1.out m1 (plain_int _) (fun h => h)
    refine call_mk 13 _ _ _ enters13 (answers_mono (ok_in bc w1 V1) ?_)
    rintro v w2 ⟨rfl, rfl⟩
    exact ⟨mo1', _, _, s1.set V1 (plain_int _) _, upd_same _ _ _, moves_set (X := fun k => k = bc) rfl _, rfl, rfl, rfl, rfl, V1.set _⟩
  · rintro e w' ⟨b, mo1', w1, v, mo2, c2, G2, w2, rfl, s1, m1, m2, ⟨rfl, rfl, rfl, rfl, V2⟩, s2, s3, m3⟩
    have V3 := V2.moves s2 m3 (plain_int _) (fun h => h)
    have HF : Hid (St B t mo2 (c1 + 1) (upd G1 (kl sB) (some (.inr 10))) w' ∧ Moves (fun k => k = bc) B t mo1 w mo2 w' ∧ Var bc (.int .i64 2) w') := by
      refine ⟨?_, ?_, V3⟩
      · rw [upd_upd] at s3
        exact s3
      · exact ((moves_set (X := fun k => k = bc) rfl _).trans m1.any).trans (m2.trans m3.any)
    clear s1 m1 m2 V2 s2 s3 m3 V3
    go_wp2_with fail
    go_ret
    exact ⟨11, rfl, rfl, mo2, HF.out⟩
end Go.Proofs.Ytnhepceannajeaa
