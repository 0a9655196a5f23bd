/- A table's state as a whole: which keys have a cell, which are being made, and what the others' values are; each call's contract over it. -/
import Derived.Test.YtnhepceannajeaaClaim
import Derived.Test.YtnhepceannajeaaKnown
namespace Go.Proofs.Ytnhepceannajeaa
open Go.RowKit Go.MuLone Go.Conc.Locks Go.Maps

/-- A key's slot: no cell; a cell that is being made, in block b; a cell that is made, with its value. -/
abbrev Slots := Lit → Option (Nat ⊕ Int)
open Classical in
noncomputable def upd (G : Slots) (k : Lit) (x : Option (Nat ⊕ Int)) : Slots := fun k' => if k' = k then x else G k'
theorem upd_same (G : Slots) (k : Lit) (x : Option (Nat ⊕ Int)) : upd G k x k = x := by simp [upd]
theorem upd_other (G : Slots) {k k' : Lit} (x : Option (Nat ⊕ Int)) (h : ¬ k' = k) : upd G k x k' = G k' := by simp [upd, h]

def SlotOk (D : DataW Unit) (w : World) (k : Lit) : Option (Nat ⊕ Int) → Prop
  | none => Maps.has D k = false
  | some (.inl b) => Leads D k b ∧ Keeps b w
  | some (.inr v) => ∃ b, Leads D k b ∧ Made b v w

structure StD (B t : Nat) (mo : Option Nat) (c : Nat) (G : Slots) (w : World) (D : DataW Unit) : Prop where
  tab : Tab t mo c D w
  size : Maps.size D = c
  slot : ∀ k, SlotOk D w k (G k)
  apart : ∀ k k' b, G k = some (.inl b) → G k' = some (.inl b) → k = k'
  lowt : B ≤ t
  lowm : ∀ m, mo = some m → B ≤ m
  lowc : ∀ k b, Leads D k b → B ≤ b

/-- The table t, its blocks from B on. -/
def St (B t : Nat) (mo : Option Nat) (c : Nat) (G : Slots) (w : World) : Prop := ∃ D, StD B t mo c G w D

/-- A cell's block, made or being made. -/
def IsC (w : World) (k : Nat) : Prop := w.cell? ⟨k, 0, none⟩ = some (.int .u32 1) ∨ (w.cell? ⟨k, 0, none⟩ = some (.int .u32 0) ∧ w.cell? ⟨k, 1, none⟩ = some (.int .i32 1))
theorem Made.isC {b : Nat} {v : Int} {w : World} (M : Made b v w) : IsC w b := Or.inl M.c0
theorem Keeps.isC {b : Nat} {w : World} (K : Keeps b w) : IsC w b := Or.inr ⟨K.c0, K.c1⟩
theorem IsC.block {w w' : World} {k : Nat} (h : IsC w' k) (hb : w'.heap[k]? = w.heap[k]?) : IsC w k := by
  have e := fun o => World.cell?_of_block (w := w) (a := ⟨k, o, none⟩) (w' := w') hb
  rcases h with h | ⟨h, h'⟩
  · exact Or.inl ((e 0).symm.trans h)
  · exact Or.inr ⟨(e 0).symm.trans h, (e 1).symm.trans h'⟩
theorem IsC.u32 {w : World} {k : Nat} (h : IsC w k) : ∃ d, w.cell? ⟨k, 0, none⟩ = some (.int .u32 d) := by
  rcases h with h | h
  · exact ⟨_, h⟩
  · exact ⟨_, h.1⟩

/-- What the calls of one table may turn. -/
def MS (B t : Nat) (mo : Option Nat) (w : World) (k : Nat) : Prop := B ≤ k ∧ (k = t ∨ mo = some k ∨ IsC w k)

/-- From w to w' nothing turned but what the calls of one table may turn, blocks of X, and new ones. -/
structure Moves (X : Nat → Prop) (B t : Nat) (mo : Option Nat) (w : World) (mo' : Option Nat) (w' : World) : Prop where
  touch : Touch (fun k => MS B t mo w k ∨ X k) w w'
  map : mo' = mo ∨ ∃ m, mo' = some m ∧ w.heap.size ≤ m

/-- No block. -/
def Nought (_ : Nat) : Prop := False

theorem Moves.mono {X Y : Nat → Prop} {B t : Nat} {mo mo' : Option Nat} {w w' : World} (h : Moves X B t mo w mo' w') (hs : ∀ k, X k → Y k) : Moves Y B t mo w mo' w' :=
  ⟨h.touch.mono (fun k _ h => h.imp id (hs k)), h.map⟩
theorem Moves.any {X : Nat → Prop} {B t : Nat} {mo mo' : Option Nat} {w w' : World} (h : Moves Nought B t mo w mo' w') : Moves X B t mo w mo' w' := h.mono (fun _ h => h.elim)
theorem Moves.refl (X : Nat → Prop) (B t : Nat) (mo : Option Nat) (w : World) : Moves X B t mo w mo w := ⟨Touch.refl _ _, Or.inl rfl⟩
theorem Moves.trans {X : Nat → Prop} {B t : Nat} {mo mo1 mo2 : Option Nat} {w w1 w2 : World} (h : Moves X B t mo w mo1 w1) (k : Moves X B t mo1 w1 mo2 w2) : Moves X B t mo w mo2 w2 := by
  have hT := h.touch
  have kT := k.touch
  refine ⟨⟨kT.os.trans hT.os, kT.tape.trans hT.tape, kT.output.trans hT.output, Nat.le_trans hT.size kT.size, fun i hi hn => ?_⟩, ?_⟩
  · have e1 := hT.block i hi hn
    refine (kT.block i (Nat.lt_of_lt_of_le hi hT.size) (fun hs => hn ?_)).trans e1
    rcases hs with ⟨hB, hs | hs | hs⟩ | hs
    · exact Or.inl ⟨hB, Or.inl hs⟩
    · rcases h.map with e | ⟨m, e, hm⟩
      · exact Or.inl ⟨hB, Or.inr (Or.inl (e ▸ hs))⟩
      · rw [e] at hs
        cases hs
        omega
    · exact Or.inl ⟨hB, Or.inr (Or.inr (hs.block e1))⟩
    · exact Or.inr hs
  · rcases k.map with e | ⟨m, e, hm⟩
    · rw [e]
      exact h.map
    · exact Or.inr ⟨m, e, Nat.le_trans hT.size hm⟩

theorem St.not {B t : Nat} {mo : Option Nat} {c : Nat} {G : Slots} {w : World} (h : St B t mo c G w) {k : Nat} {x : Value} (hx : w.cell? ⟨k, 0, none⟩ = some x) (hu : ∀ d, ¬ x = .int .u32 d) (hi : ¬ x = .int .i32 0) : ¬ MS B t mo w k := by
  obtain ⟨D, S⟩ := h
  rintro ⟨_, h | h | h⟩
  · subst h
    rw [S.tab.lk] at hx
    exact hi (Option.some.inj hx).symm
  · exact ne_of_map (S.tab.own k h) hx rfl
  · obtain ⟨d, h⟩ := h.u32
    rw [hx] at h
    exact hu d (Option.some.inj h)

theorem ownsMap_tight {w : World} {m n : Nat} {D : DataW Unit} (h : w.ownsMap Try.prog 9 ptrElem m n D) : w.ownsMap Try.prog 9 ptrElem m (Maps.size D) D := by
  obtain ⟨es, clock, hb, F, hs, hD⟩ := h
  exact ⟨es, clock, hb, F, by rw [hD]; simp [Maps.size, length_sorted], hD⟩

theorem Tab.tight {t : Nat} {mo : Option Nat} {n : Nat} {D : DataW Unit} {w : World} (T : Tab t mo n D w) : Tab t mo (Maps.size D) D w :=
  ⟨T.lk, T.mp, T.fz, fun m hm => ownsMap_tight (T.own m hm), T.nil⟩

theorem Tab.tidy {t : Nat} {mo : Option Nat} {n : Nat} {D : DataW Unit} {w : World} (T : Tab t mo n D w) : Tidy D := by
  cases hmo : mo with
  | none => rw [T.nil hmo]; exact tidy_empty
  | some m => exact (T.own m hmo).tidy skey

theorem made_ne {t : Nat} {mo : Option Nat} {n : Nat} {D : DataW Unit} {w : World} (T : Tab t mo n D w) {b : Nat} {v : Int} (M : Made b v w) : ¬ b = t := by
  intro e
  subst e
  have := T.lk.symm.trans M.c0
  simp at this
theorem keeps_ne {t : Nat} {mo : Option Nat} {n : Nat} {D : DataW Unit} {w : World} (T : Tab t mo n D w) {b : Nat} (M : Keeps b w) : ¬ b = t := by
  intro e
  subst e
  have := T.lk.symm.trans M.c0
  simp at this

/-- Slots stay what they are where their blocks do. -/
theorem SlotOk.touch {D : DataW Unit} {w w' : World} {k : Lit} {x : Option (Nat ⊕ Int)} {S : Nat → Prop} (h : SlotOk D w k x) (hT : Touch S w w') (hk : ∀ b, Keeps b w → ¬ S b) (hm : ∀ b v, Made b v w → ¬ S b) : SlotOk D w' k x := by
  match x, h with
  | none, h => exact h
  | some (.inl b), ⟨hl, K⟩ => exact ⟨hl, K.touch hT (hk b K)⟩
  | some (.inr v), ⟨b, hl, M⟩ => exact ⟨b, hl, M.touch hT (hm b v M)⟩

theorem count_st (B t : Nat) (mo : Option Nat) (c : Nat) (G : Slots) (w : World) (h : St B t mo c G w) :
    Calls Try.prog 15 #[.pointer (some ⟨t, 0, none⟩)] w fun e w' => e = .returned (.int .i64 c) ∧ St B t mo c G w' ∧ Moves Nought B t mo w mo w' := by
  obtain ⟨D, S⟩ := h
  refine (count_any t mo c D w S.tab).mono ?_
  rintro e w' ⟨rfl, T', hT⟩
  refine ⟨by rw [S.size], ⟨D, T', S.size, fun k => (S.slot k).touch hT (fun b K => keeps_ne S.tab K) (fun b v M => made_ne S.tab M), S.apart, S.lowt, S.lowm, S.lowc⟩, hT.mono (fun _ _ h => Or.inl ⟨h ▸ S.lowt, Or.inl h⟩), Or.inl rfl⟩

theorem made_st_no (B t : Nat) (mo : Option Nat) (c : Nat) (G : Slots) (s : ByteArray) (hs : s.size ≤ 1000) (w : World) (h : St B t mo c G w) (hg : G (kl s) = none) :
    Calls Try.prog 17 #[.pointer (some ⟨t, 0, none⟩), .string s] w fun e w' => e = .returned (.bool false) ∧ St B t mo c G w' ∧ Moves Nought B t mo w mo w' := by
  obtain ⟨D, S⟩ := h
  have hk := S.slot (kl s)
  rw [hg] at hk
  refine (made_tab_none t mo c D s hs w S.tab hk).mono ?_
  rintro e w' ⟨rfl, T', hT⟩
  exact ⟨rfl, ⟨D, T', S.size, fun k => (S.slot k).touch hT (fun b K => keeps_ne S.tab K) (fun b v M => made_ne S.tab M), S.apart, S.lowt, S.lowm, S.lowc⟩, hT.mono (fun _ _ h => Or.inl ⟨h ▸ S.lowt, Or.inl h⟩), Or.inl rfl⟩

theorem made_st_yes (B t : Nat) (mo : Option Nat) (c : Nat) (G : Slots) (s : ByteArray) (hs : s.size ≤ 1000) (w : World) (h : St B t mo c G w) (v : Int) (hg : G (kl s) = some (.inr v)) :
    Calls Try.prog 17 #[.pointer (some ⟨t, 0, none⟩), .string s] w fun e w' => e = .returned (.bool true) ∧ St B t mo c G w' ∧ Moves Nought B t mo w mo w' := by
  obtain ⟨D, S⟩ := h
  have hk := S.slot (kl s)
  rw [hg] at hk
  obtain ⟨b, hl, M⟩ := hk
  refine (made_tab_yes t mo c D s hs w S.tab b hl v M (made_ne S.tab M)).mono ?_
  rintro e w' ⟨rfl, T', hT⟩
  exact ⟨rfl, ⟨D, T', S.size, fun k => (S.slot k).touch hT (fun b K => keeps_ne S.tab K) (fun b v M => made_ne S.tab M), S.apart, S.lowt, S.lowm, S.lowc⟩, hT.mono (fun _ _ h => Or.inl ⟨h ▸ S.lowt, Or.inl h⟩), Or.inl rfl⟩

theorem TS_keeps {t : Nat} {mo : Option Nat} {n : Nat} {D : DataW Unit} {w : World} (T : Tab t mo n D w) {b : Nat} (M : Keeps b w) : ¬ TS t mo b := by
  rintro (h | h)
  · exact keeps_ne T M h
  · exact ne_of_map (T.own b h) M.c0 rfl
theorem TS_made {t : Nat} {mo : Option Nat} {n : Nat} {D : DataW Unit} {w : World} (T : Tab t mo n D w) {b : Nat} {v : Int} (M : Made b v w) : ¬ TS t mo b := by
  rintro (h | h)
  · exact made_ne T M h
  · exact ne_of_map (T.own b h) M.c0 rfl
theorem TS_MS {B t : Nat} {mo : Option Nat} {c : Nat} {G : Slots} {D : DataW Unit} {w : World} (S : StD B t mo c G w D) (k : Nat) (h : TS t mo k) : MS B t mo w k := by
  rcases h with h | h
  · exact ⟨h ▸ S.lowt, Or.inl h⟩
  · exact ⟨S.lowm k h, Or.inr (Or.inl h)⟩

theorem iskey (s : ByteArray) : WideAt.IsKeyLit (kl s) := by simp [WideAt.IsKeyLit]

/-- How many cells are left. -/
def less (c : Nat) : Option (Nat ⊕ Int) → Nat
  | none => c
  | some _ => c - 1

theorem upd_apart {G : Slots} (h : ∀ k k' b, G k = some (.inl b) → G k' = some (.inl b) → k = k') {k0 : Lit} {x : Option (Nat ⊕ Int)} (hx : ∀ b, x = some (.inl b) → ∀ k, ¬ G k = some (.inl b)) :
    ∀ k k' b, upd G k0 x k = some (.inl b) → upd G k0 x k' = some (.inl b) → k = k' := by
  intro k k' b hk hk'
  by_cases e : k = k0
  · by_cases e' : k' = k0
    · rw [e, e']
    · subst e
      rw [upd_same] at hk
      rw [upd_other G x e'] at hk'
      exact absurd hk' (hx b hk k')
  · rw [upd_other G x e] at hk
    by_cases e' : k' = k0
    · subst e'
      rw [upd_same] at hk'
      exact absurd hk (hx b hk' k)
    · rw [upd_other G x e'] at hk'
      exact h k k' b hk hk'

theorem leads_del {D : DataW Unit} {k k' : Lit} {b : Nat} (h : Leads (D.del k) k' b) : Leads D k' b := by
  by_cases e : k' = k
  · subst e
    unfold Leads at h
    rw [atKey_del_same] at h
    cases h
  · exact (atKey_del_other e _).symm.trans h

theorem slot_has {D : DataW Unit} {w : World} {k : Lit} {x : Option (Nat ⊕ Int)} (h : SlotOk D w k x) : Maps.has D k = x.isSome := by
  match x, h with
  | none, h => exact h
  | some (.inl b), ⟨hl, _⟩ => exact hl.has
  | some (.inr v), ⟨b, hl, _⟩ => exact hl.has

theorem slot_del {D : DataW Unit} {w : World} {k k' : Lit} {x : Option (Nat ⊕ Int)} (h : SlotOk D w k' x) (hne : ¬ k' = k) : SlotOk (D.del k) w k' x := by
  match x, h with
  | none, h => exact (has_del_other hne).trans h
  | some (.inl b), ⟨hl, K⟩ => exact ⟨(atKey_del_other hne _).trans hl, K⟩
  | some (.inr v), ⟨b, hl, M⟩ => exact ⟨b, (atKey_del_other hne _).trans hl, M⟩

theorem slot_put {D : DataW Unit} {w : World} {k k' : Lit} {d : DataW Unit} {x : Option (Nat ⊕ Int)} (h : SlotOk D w k' x) (hne : ¬ k' = k) : SlotOk (D.put k d) w k' x := by
  match x, h with
  | none, h => exact (has_put_other hne d).trans h
  | some (.inl b), ⟨hl, K⟩ => exact ⟨(atKey_put_other hne d _).trans hl, K⟩
  | some (.inr v), ⟨b, hl, M⟩ => exact ⟨b, (atKey_put_other hne d _).trans hl, M⟩

theorem drop_st (B t : Nat) (mo : Option Nat) (c : Nat) (G : Slots) (s : ByteArray) (hs : s.size ≤ 1000) (w : World) (h : St B t mo c G w) :
    Calls Try.prog 16 #[.pointer (some ⟨t, 0, none⟩), .string s] w fun e w' => e = .returned (.tuple #[]) ∧ St B t mo (less c (G (kl s))) (upd G (kl s) none) w' ∧ Moves Nought B t mo w mo w' := by
  obtain ⟨D, S⟩ := h
  refine (drop_any t mo c D s hs w S.tab).mono ?_
  rintro e w' ⟨rfl, T', hT⟩
  have hsz : Maps.size (D.del (kl s)) = less c (G (kl s)) := by
    have e1 := size_del (k := kl s) S.tab.tidy
    rw [slot_has (S.slot (kl s)), S.size] at e1
    cases hg : G (kl s) with
    | none => rw [hg] at e1; simpa [less] using e1
    | some y => rw [hg] at e1; simp at e1; simp only [less]; omega
  refine ⟨rfl, ⟨D.del (kl s), by rw [← hsz]; exact T'.tight, hsz, fun k => ?_, upd_apart S.apart (fun _ h => by cases h), S.lowt, S.lowm, fun k b h => S.lowc k b (leads_del h)⟩, hT.mono (fun k _ h => Or.inl (TS_MS S k h)), Or.inl rfl⟩
  by_cases hk : k = kl s
  · subst hk
    rw [upd_same]
    exact has_del_same
  · rw [upd_other G none hk]
    exact slot_del ((S.slot k).touch hT (fun b K => TS_keeps S.tab K) (fun b v M => TS_made S.tab M)) hk

theorem get_st_hit (B t : Nat) (mo : Option Nat) (c : Nat) (G : Slots) (s : ByteArray) (hs : s.size ≤ 1000) (mk : Value) (w : World) (h : St B t mo c G w) (v : Int) (hg : G (kl s) = some (.inr v)) :
    Calls Try.prog 11 #[.pointer (some ⟨t, 0, none⟩), .string s, mk] w fun e w' => e = .returned (.int .i64 v) ∧ St B t mo c G w' ∧ Moves Nought B t mo w mo w' := by
  obtain ⟨D, S⟩ := h
  have hk := S.slot (kl s)
  rw [hg] at hk
  obtain ⟨b, hl, M⟩ := hk
  refine (tget_made t mo c D s hs mk w S.tab b hl v M (made_ne S.tab M)).mono ?_
  rintro e w' ⟨rfl, T', M', hT⟩
  refine ⟨rfl, ⟨D, T', S.size, fun k => ?_, S.apart, S.lowt, S.lowm, S.lowc⟩, hT.mono (fun k hk h => ?_), Or.inl rfl⟩
  · have hk := S.slot k
    generalize G k = x at hk
    match x, hk with
    | none, h => exact h
    | some (.inl b'), ⟨hl', K⟩ =>
      refine ⟨hl', K.touch hT ?_⟩
      rintro (e | e)
      · exact keeps_ne S.tab K e
      · subst e
        have := K.c0.symm.trans M.c0
        simp at this
    | some (.inr v'), ⟨b', hl', M2⟩ =>
      by_cases e : b' = b
      · subst e
        have hv := M.c4.symm.trans M2.c4
        simp at hv
        subst hv
        exact ⟨b', hl', M'⟩
      · refine ⟨b', hl', M2.touch hT ?_⟩
        rintro (e' | e')
        · exact made_ne S.tab M2 e'
        · exact e e'
  · rcases h with h | h
    · exact Or.inl ⟨h ▸ S.lowt, Or.inl h⟩
    · subst h
      exact Or.inl ⟨S.lowc _ _ hl, Or.inr (Or.inr M.isC)⟩

/-- What a make may do, from the world in which it is called. -/
def Makes (X : Nat → Prop) (B t : Nat) (k : Lit) (b : Nat) (mo1 : Option Nat) (w1 : World) (Q : Int → Option Nat → Nat → Slots → World → Prop) (v : Int) (w2 : World) : Prop :=
  ∃ mo2 c2 G2, St B t mo2 c2 G2 w2 ∧ G2 k = some (.inl b) ∧ Moves X B t mo1 w1 mo2 w2 ∧ Q v mo2 c2 G2 w2

theorem st_done (X : Nat → Prop) {B t : Nat} {mo : Option Nat} {c : Nat} {G : Slots} {w : World} {k : Lit} {b : Nat} (h : St B t mo c G w) (hg : G k = some (.inl b)) (v : Int) :
    St B t mo c (upd G k (some (.inr v))) (doneBy b v w) ∧ Moves X B t mo w mo (doneBy b v w) := by
  obtain ⟨D, S⟩ := h
  have hk := S.slot k
  rw [hg] at hk
  obtain ⟨hl, K⟩ := hk
  have hT : Touch (fun k => k = b) w (doneBy b v w) := touch_done (Touch.refl (fun k => k = b) w) (Or.inl rfl) v
  refine ⟨⟨D, S.tab.touch hT (fun e => keeps_ne S.tab K e.symm) (fun m hm e => ne_of_map (S.tab.own m hm) K.c0 e), S.size, fun k' => ?_, upd_apart S.apart (fun _ h => by cases h), S.lowt, S.lowm, S.lowc⟩, hT.mono (fun k _ h => Or.inl ⟨h ▸ S.lowc _ _ hl, Or.inr (Or.inr (h ▸ K.isC))⟩), Or.inl rfl⟩
  by_cases e : k' = k
  · subst e
    rw [upd_same]
    exact ⟨b, hl, made_done v K⟩
  · rw [upd_other G _ e]
    have hk' := S.slot k'
    have hap : ∀ b', G k' = some (.inl b') → ¬ b' = b := fun b' hb' e' => e (S.apart k' k b (by rw [hb', e']) hg)
    generalize G k' = x at hk' hap
    match x, hk', hap with
    | none, h, _ => exact h
    | some (.inl b'), ⟨hl', K'⟩, hap => exact ⟨hl', K'.touch hT (hap b' rfl)⟩
    | some (.inr v'), ⟨b', hl', M'⟩, _ =>
      refine ⟨b', hl', M'.touch hT (fun e => ?_)⟩
      subst e
      have := K.c0.symm.trans M'.c0
      simp at this

/-- What Get leaves where the key had no cell. -/
def FetchedSt (X : Nat → Prop) (B t : Nat) (mo : Option Nat) (c : Nat) (G : Slots) (k : Lit) (w : World) (Q : Nat → Option Nat → World → Int → Option Nat → Nat → Slots → World → Prop) (e : Ending) (w' : World) : Prop :=
  ∃ b mo1 w1 v mo2 c2 G2 w2, e = .returned (.int .i64 v) ∧ St B t mo1 (c + 1) (upd G k (some (.inl b))) w1 ∧ Moves Nought B t mo w mo1 w1 ∧ Moves X B t mo1 w1 mo2 w2 ∧ Q b mo1 w1 v mo2 c2 G2 w2 ∧ St B t mo2 c2 G2 w2 ∧ St B t mo2 c2 (upd G2 k (some (.inr v))) w' ∧ Moves Nought B t mo2 w2 mo2 w'

theorem get_st_new (X : Nat → Prop) (B t : Nat) (mo : Option Nat) (c : Nat) (G : Slots) (s : ByteArray) (hs : s.size ≤ 1000) (hc : c < 1000000) (mk : Value) (hmk : IsMk mk) (w : World) (h : St B t mo c G w) (hg : G (kl s) = none)
    (Q : Nat → Option Nat → World → Int → Option Nat → Nat → Slots → World → Prop)
    (hm : ∀ b mo1 w1, St B t mo1 (c + 1) (upd G (kl s) (some (.inl b))) w1 → Moves Nought B t mo w mo1 w1 → Calls Try.prog 42 #[mk] w1 (Answers (Makes X B t (kl s) b mo1 w1 (Q b mo1 w1)))) :
    Calls Try.prog 11 #[.pointer (some ⟨t, 0, none⟩), .string s, mk] w (FetchedSt X B t mo c G (kl s) w Q) := by
  obtain ⟨D, S⟩ := h
  have hk := S.slot (kl s)
  rw [hg] at hk
  have hlow : ∀ k b, G k = some (.inl b) → b < w.heap.size := fun k b e => by
    have := S.slot k
    rw [e] at this
    exact lt_of_cell? this.2.c0
  have hBw : B ≤ w.heap.size := by
    have h1 := lt_of_cell? S.tab.lk
    have h2 := S.lowt
    simp at h1
    omega
  have key : ∀ b m w1, w.heap.size ≤ b → (mo = some m ∨ w.heap.size ≤ m) → Tab t (some m) (c + 1) (D.put (kl s) (.lit (.int .i64 b))) w1 → Touch (TS t mo) w w1 → Keeps b w1 →
      St B t (some m) (c + 1) (upd G (kl s) (some (.inl b))) w1 ∧ Moves Nought B t mo w (some m) w1 := by
    intro b m w1 hb hmm T1 t1 K1
    refine ⟨⟨_, T1, ?_, fun k => ?_, upd_apart S.apart (fun b' hb' k hk' => ?_), S.lowt, fun m' hm' => ?_, fun k b' hl' => ?_⟩, t1.mono (fun k _ h => Or.inl (TS_MS S k h)), ?_⟩
    · rw [size_put S.tab.tidy, hk, S.size]; rfl
    · by_cases e : k = kl s
      · subst e
        rw [upd_same]
        exact ⟨atKey_put_same S.tab.tidy.isMap (iskey s) _ _, K1⟩
      · rw [upd_other G _ e]
        exact slot_put ((S.slot k).touch t1 (fun b K => TS_keeps S.tab K) (fun b v M => TS_made S.tab M)) e
    · cases hb'
      have := hlow k b hk'
      omega
    · cases hm'
      rcases hmm with e | e
      · exact S.lowm m e
      · omega
    · by_cases e : k = kl s
      · subst e
        have e1 := (atKey_put_same S.tab.tidy.isMap (iskey s) (.lit (.int .i64 b)) .nil).symm.trans hl'
        simp at e1
        omega
      · exact S.lowc k b' ((atKey_put_other e _ _).symm.trans hl')
    · rcases hmm with e | e
      · exact Or.inl e.symm
      · exact Or.inr ⟨m, rfl, e⟩
  refine (tget_new t mo c D s hs hc mk hmk w S.tab hk (fun b m w1 v w2 => Makes X B t (kl s) b (some m) w1 (Q b (some m) w1) v w2) ?_ ?_).mono ?_
  · intro b m w1 hb hmm T1 t1 K1
    obtain ⟨s1, m1⟩ := key b m w1 hb hmm T1 t1 K1
    exact hm b (some m) w1 s1 m1
  · rintro b m w1 v w2 hb hmm T1 t1 K1 ⟨mo2, c2, G2, ⟨D2, S2⟩, hg2, _, _⟩
    have := S2.slot (kl s)
    rw [hg2] at this
    exact this.2
  · rintro e w' ⟨b, m, v, w1, w2, hb, hmm, T1, t1, K1, ⟨mo2, c2, G2, s2, hg2, m2, q⟩, rfl, rfl⟩
    obtain ⟨s1, m1⟩ := key b m w1 hb hmm T1 t1 K1
    obtain ⟨s3, m3⟩ := st_done Nought s2 hg2 v
    exact ⟨b, some m, w1, v, mo2, c2, G2, w2, rfl, s1, m1, m2, q, s2, s3, m3⟩

theorem St.alloc {B t : Nat} {mo : Option Nat} {c : Nat} {G : Slots} {w w' : World} (h : St B t mo c G w) (hT : Touch (fun _ => False) w w') : St B t mo c G w' := by
  obtain ⟨D, S⟩ := h
  exact ⟨D, S.tab.touch hT (fun h => h) (fun _ _ h => h), S.size, fun k => (S.slot k).touch hT (fun _ _ h => h) (fun _ _ _ h => h), S.apart, S.lowt, S.lowm, S.lowc⟩

/-- A table stays what it is while a block is written that is none of its own. -/
theorem St.other {B t : Nat} {mo : Option Nat} {c : Nat} {G : Slots} {w w' : World} {S : Nat → Prop} (h : St B t mo c G w) (hT : Touch S w w') (hn : ∀ k, S k → ¬ MS B t mo w k) : St B t mo c G w' := by
  obtain ⟨D, R⟩ := h
  refine ⟨D, R.tab.touch hT (fun h => hn t h ⟨R.lowt, Or.inl rfl⟩) (fun m hm h => hn m h ⟨R.lowm m hm, Or.inr (Or.inl hm)⟩), R.size, fun k => ?_, R.apart, R.lowt, R.lowm, R.lowc⟩
  have hk := R.slot k
  generalize G k = x at hk
  match x, hk with
  | none, h => exact h
  | some (.inl b), ⟨hl, K⟩ => exact ⟨hl, K.touch hT (fun h => hn b h ⟨R.lowc _ _ hl, Or.inr (Or.inr K.isC)⟩)⟩
  | some (.inr v), ⟨b, hl, M⟩ => exact ⟨b, hl, M.touch hT (fun h => hn b h ⟨R.lowc _ _ hl, Or.inr (Or.inr M.isC)⟩)⟩

/-- A cell that no table leads to, and that is not yet made, stays so. -/
theorem Unmade.moves {X : Nat → Prop} {B t : Nat} {mo mo' : Option Nat} {c : Nat} {G : Slots} {w w' : World} {b : Nat} {mk : Value} (U : Unmade b mk w) (S : St B t mo c G w) (m : Moves X B t mo w mo' w') (hX : ¬ X b) : Unmade b mk w' := by
  refine U.touch m.touch ?_
  rintro (⟨_, h | h | h⟩ | h)
  · obtain ⟨D, R⟩ := S
    subst h
    have := R.tab.lk.symm.trans U.c0
    simp at this
  · obtain ⟨D, R⟩ := S
    exact ne_of_map (R.tab.own b h) U.c0 rfl
  · rcases h with h | ⟨_, h⟩
    · have := U.c0.symm.trans h
      simp at this
    · have := U.c1.symm.trans h
      simp at this
  · exact hX h

theorem Moves.below {X : Nat → Prop} {B t : Nat} {mo mo' : Option Nat} {w w' : World} (h : Moves X B t mo w mo' w') (hB : B ≤ w.heap.size) (hX : ∀ k, X k → B ≤ k) : Below B w w' :=
  h.touch.below hB (fun k hk hs => by
    rcases hs with hs | hs
    · have := hs.1; omega
    · have := hX k hs; omega)

theorem st_new (B : Nat) (w : World) (hB : B ≤ w.heap.size) : St B w.heap.size none 0 (fun _ => none) (w.alloc (.cells #[.int .i32 0, .int .u32 0, .map none] 61)) :=
  ⟨.map [], tab_new w 0, rfl, fun _ => rfl, (fun _ _ _ h => by cases h), hB, (fun _ h => by cases h), (fun _ _ h => by cases h)⟩
end Go.Proofs.Ytnhepceannajeaa
