/- Contracts of a Table's calls: Count, Drop, Made, claim; over what its map reads as. -/
import Derived.Test.YtnhepceannajeaaNew
import Derived.Test.YtnhepceannajeaaShelf
import Derived.Maps.OwnSet
import Derived.WalkSpells
import Derived.Deep.RegionHeld3
namespace Go.Proofs.Ytnhepceannajeaa
open Go.RowKit Go.MuLone Go.Conc.Locks Go.Maps

theorem skey : Keyed Try.prog 9 := string_keyed Try.underlying9
/-- What a string reads as, as a key. -/
abbrev kl (s : ByteArray) : Lit := .string s.data.toList
theorem key_kl (s : ByteArray) (hs : s.size ≤ 1000) : keyOf Try.prog 9 (.string s) = some (kl s) := WideMaps.keyOf_string_mk Try.underlying9 (by unfold maxLen; omega)

/-- How an element of the map reads: nil, or the number of its cell's block. -/
def ptrElem : Value → Option (DataW Unit × List MemPlace)
  | .pointer none => some (.nil, [])
  | .pointer (some a) => if a.off = 0 ∧ a.spot = none then some (.lit (.int .i64 a.block), []) else none
  | _ => none

theorem ptrElem_mk (b : Nat) : ptrElem (.pointer (some ⟨b, 0, none⟩)) = some (.lit (.int .i64 b), []) := by simp [ptrElem]
theorem ptrElem_inv {v : Value} {b : Nat} {ps : List MemPlace} (h : ptrElem v = some (.lit (.int .i64 b), ps)) : v = .pointer (some ⟨b, 0, none⟩) := by
  unfold ptrElem at h
  split at h
  · simp at h
  · rename_i a
    split at h
    · rename_i hc
      obtain ⟨bl, off, sp⟩ := a
      simp at hc h
      obtain ⟨rfl, rfl⟩ := hc
      simp
    · cases h
  · cases h
theorem ptrElem_nil {v : Value} {ps : List MemPlace} (h : ptrElem v = some (.nil, ps)) : v = .pointer none := by
  unfold ptrElem at h
  split at h
  · rfl
  · split at h <;> simp at h
  · cases h

/-- The block that key k leads to. -/
def Leads (D : DataW Unit) (k : Lit) (b : Nat) : Prop := D.atKey k .nil = .lit (.int .i64 b)

theorem Leads.has {D : DataW Unit} {k : Lit} {b : Nat} (h : Leads D k b) : Maps.has D k = true := by
  cases hh : Maps.has D k
  · have := atKey_of_not_has hh (DataW.nil : DataW Unit)
    unfold Leads at h
    rw [this] at h
    cases h
  · rfl

theorem look_hit {w : World} {m n : Nat} {D : DataW Unit} (h : w.ownsMap Try.prog 9 ptrElem m n D) {s : ByteArray} (hs : s.size ≤ 1000) {b : Nat} (hl : Leads D (kl s) b) :
    (Instr.lookup 59 (.map (some m)) (.string s) true).run Try.prog w = .ok (.tuple #[.pointer (some ⟨b, 0, none⟩), .bool true]) w := by
  obtain ⟨v, ps, hrun, hv⟩ := h.look_ok (t := 59) (e := 23) skey Try.underlying59 (Try.zeroValue23 w) (zd := .nil) (zp := []) rfl (key_kl s hs)
  rw [hl] at hv
  rw [hrun, ptrElem_inv hv, hl.has]
theorem look_miss {w : World} {m n : Nat} {D : DataW Unit} (h : w.ownsMap Try.prog 9 ptrElem m n D) {s : ByteArray} (hs : s.size ≤ 1000) (hl : Maps.has D (kl s) = false) :
    (Instr.lookup 59 (.map (some m)) (.string s) true).run Try.prog w = .ok (.tuple #[.pointer none, .bool false]) w := by
  obtain ⟨v, ps, hrun, hv⟩ := h.look_ok (t := 59) (e := 23) skey Try.underlying59 (Try.zeroValue23 w) (zd := .nil) (zp := []) rfl (key_kl s hs)
  rw [atKey_of_not_has hl] at hv
  rw [hrun, ptrElem_nil hv, hl]
theorem get_hit {w : World} {m n : Nat} {D : DataW Unit} (h : w.ownsMap Try.prog 9 ptrElem m n D) {s : ByteArray} (hs : s.size ≤ 1000) {b : Nat} (hl : Leads D (kl s) b) :
    (Instr.lookup 59 (.map (some m)) (.string s) false).run Try.prog w = .ok (.pointer (some ⟨b, 0, none⟩)) w := by
  obtain ⟨v, ps, hrun, hv⟩ := h.lookup (t := 59) (e := 23) skey Try.underlying59 (Try.zeroValue23 w) (zd := .nil) (zp := []) rfl (key_kl s hs)
  rw [hl] at hv
  rw [hrun, ptrElem_inv hv]
theorem get_miss {w : World} {m n : Nat} {D : DataW Unit} (h : w.ownsMap Try.prog 9 ptrElem m n D) {s : ByteArray} (hs : s.size ≤ 1000) (hl : Maps.has D (kl s) = false) :
    (Instr.lookup 59 (.map (some m)) (.string s) false).run Try.prog w = .ok (.pointer none) w := by
  obtain ⟨v, ps, hrun, hv⟩ := h.lookup (t := 59) (e := 23) skey Try.underlying59 (Try.zeroValue23 w) (zd := .nil) (zp := []) rfl (key_kl s hs)
  rw [atKey_of_not_has hl] at hv
  rw [hrun, ptrElem_nil hv]

/-- A table: its lock free, and its map, that reads as D; 'mo' is the map's block, none while it is nil. -/
structure Tab (t : Nat) (mo : Option Nat) (n : Nat) (D : DataW Unit) (w : World) : Prop where
  lk : w.cell? ⟨t, 0, none⟩ = some (.int .i32 0)
  mp : w.cell? ⟨t, 2, none⟩ = some (.map mo)
  fz : ∀ o, w.frozen? ⟨t, o, none⟩ = false
  own : ∀ m, mo = some m → w.ownsMap Try.prog 9 ptrElem m n D
  nil : mo = none → D = .map []

/-- What a table's own turns touch. -/
def TS (t : Nat) (mo : Option Nat) (k : Nat) : Prop := k = t ∨ mo = some k

theorem ownsMap_block {w w' : World} {m n : Nat} {D : DataW Unit} (h : w.ownsMap Try.prog 9 ptrElem m n D) (hb : w'.heap[m]? = w.heap[m]?) : w'.ownsMap Try.prog 9 ptrElem m n D := by
  obtain ⟨es, clock, hh, r⟩ := h
  exact ⟨es, clock, hb.trans hh, r⟩

theorem ne_of_map {w : World} {m n : Nat} {D : DataW Unit} (h : w.ownsMap Try.prog 9 ptrElem m n D) {b o : Nat} {x : Value} (hc : w.cell? ⟨b, o, none⟩ = some x) : m ≠ b := by
  intro e
  subst e
  obtain ⟨es, clock, hh, _⟩ := h
  simp [World.cell?, hh] at hc

theorem Tab.touch {S : Nat → Prop} {w w' : World} {t : Nat} {mo : Option Nat} {n : Nat} {D : DataW Unit} (T : Tab t mo n D w) (h : Touch S w w') (ht : ¬ S t) (hm : ∀ m, mo = some m → ¬ S m) : Tab t mo n D w' := by
  have hl : t < w.heap.size := lt_of_cell? T.lk
  have e := fun o => h.cell (p := ⟨t, o, none⟩) hl ht
  have f := fun o => h.frozen (p := ⟨t, o, none⟩) hl ht
  exact ⟨(e 0).trans T.lk, (e 2).trans T.mp, fun o => (f o).trans (T.fz o), fun m hmo => ownsMap_block (T.own m hmo) (h.block m (T.own m hmo).lt (hm m hmo)), T.nil⟩

theorem Tab.drew {w : World} {t : Nat} {mo : Option Nat} {n : Nat} {D : DataW Unit} (T : Tab t mo n D w) : Tab t mo n D w.drew :=
  T.touch (S := fun _ => False) (Touch.refl _ w).drew (fun h => h) (fun _ _ h => h)

theorem cell_two {w : World} {t : Nat} {x : Value} (h : w.cell? ⟨t, 0, none⟩ = some x) (u v : Value) : ((w.setCell ⟨t, 0, none⟩ u).setCell ⟨t, 0, none⟩ v).cell? ⟨t, 0, none⟩ = some v :=
  World.cell?_setCell_same _ _ _ (World.cell?_setCell_same _ _ _ h)

/-- Behind a lock and an unlock the table is what it was. -/
theorem Tab.locked {w : World} {t : Nat} {mo : Option Nat} {n : Nat} {D : DataW Unit} (T : Tab t mo n D w) :
    Tab t mo n D ((w.setCell ⟨t, 0, none⟩ (.int .i32 1)).setCell ⟨t, 0, none⟩ (.int .i32 0)) := by
  refine ⟨cell_two T.lk _ _, ?_, fun o => by simp [T.fz o], fun m hm => ?_, T.nil⟩
  · rw [cell_ne _ _ (by omega), cell_ne _ _ (by omega)]; exact T.mp
  · have hne := ne_of_map (T.own m hm) T.lk
    exact ((T.own m hm).setCell hne _).setCell hne _

theorem touch_locked {S : Nat → Prop} {w : World} {t : Nat} (ht : S t) : Touch S w ((w.setCell ⟨t, 0, none⟩ (.int .i32 1)).setCell ⟨t, 0, none⟩ (.int .i32 0)) :=
  ((Touch.refl S w).setCell (p := ⟨t, 0, none⟩) (Or.inl ht) _).setCell (p := ⟨t, 0, none⟩) (Or.inl ht) _

/-- Behind the lock the map is what it was. -/
theorem Tab.ownLocked {w : World} {t m : Nat} {mo : Option Nat} {n : Nat} {D : DataW Unit} (T : Tab t mo n D w) (hm : mo = some m) : (w.setCell ⟨t, 0, none⟩ (.int .i32 1)).ownsMap Try.prog 9 ptrElem m n D :=
  (T.own m hm).setCell (ne_of_map (T.own m hm) T.lk) _

theorem Tab.mpLocked {w : World} {t : Nat} {mo : Option Nat} {n : Nat} {D : DataW Unit} (T : Tab t mo n D w) : (w.setCell ⟨t, 0, none⟩ (.int .i32 1)).cell? ⟨t, 2, none⟩ = some (.map mo) :=
  (cell_ne _ _ (by omega)).trans T.mp

def Same (t : Nat) (mo : Option Nat) (n : Nat) (D : DataW Unit) (w : World) (v : Value) (e : Ending) (w' : World) : Prop :=
  e = .returned v ∧ Tab t mo n D w' ∧ Touch (fun k => k = t) w w'

theorem count_any (t : Nat) (mo : Option Nat) (n : Nat) (D : DataW Unit) (w : World) (T : Tab t mo n D w) :
    Calls Try.prog 15 #[.pointer (some ⟨t, 0, none⟩)] w (Same t mo n D w (.int .i64 (Maps.size D))) := by
  have hlen : (Builtin.len_ #[59] 3 #[.map mo]).run Try.prog (w.setCell ⟨t, 0, none⟩ (.int .i32 1)) = .ok (.int .i64 (Maps.size D)) (w.setCell ⟨t, 0, none⟩ (.int .i32 1)) := by
    cases hmo : mo with
    | none => rw [T.nil hmo]; exact Maps.len_nil Try.underlying59 3
    | some m => exact (T.ownLocked hmo).len Try.underlying59 3
  have hmp := T.mpLocked
  have HT := Lib.hid T
  have lk := T.lk
  have fz := T.fz 0
  clear T
  go_enter_defers Try.func15, Try.ntmps15
  go_wp2_with fail
  refine (lock_free muLib ⟨t, 0, none⟩ _ lk fz).mono ?_
  rintro e w' ⟨rfl, rfl⟩
  go_wp2_with fail
  refine leaves_cons (f := 33) (args := #[.pointer (some ⟨t, 0, none⟩)]) (by simp) (by simp [go_sem]) ?_
  refine (unlock_deferred muLib ⟨t, 0, none⟩ .returning _ (World.cell?_setCell_same _ _ _ lk) (by simp [fz])).mono ?_
  rintro e u' w'' ⟨rfl, rfl, rfl⟩
  exact ⟨_, results_tmp rfl _ _ _, rfl, HT.out.locked, touch_locked rfl⟩

theorem made_tab_none (t : Nat) (mo : Option Nat) (n : Nat) (D : DataW Unit) (s : ByteArray) (hs : s.size ≤ 1000) (w : World) (T : Tab t mo n D w) (hh : Maps.has D (kl s) = false) :
    Calls Try.prog 17 #[.pointer (some ⟨t, 0, none⟩), .string s] w (Same t mo n D w (.bool false)) := by
  have hlk : (Instr.lookup 59 (.map mo) (.string s) false).run Try.prog (w.setCell ⟨t, 0, none⟩ (.int .i32 1)) = .ok (.pointer none) (w.setCell ⟨t, 0, none⟩ (.int .i32 1)) := by
    cases hmo : mo with
    | none => exact Maps.look_nil false skey Try.underlying59 (Try.zeroValue23 _) (key_kl s hs)
    | some m => exact get_miss (T.ownLocked hmo) hs hh
  have hmp := T.mpLocked
  have HT := Lib.hid T
  have lk := T.lk
  have fz := T.fz 0
  clear T hh
  go_enter_defers Try.func17, Try.ntmps17
  go_wp2_with fail
  refine (lock_free muLib ⟨t, 0, none⟩ _ lk fz).mono ?_
  rintro e w' ⟨rfl, rfl⟩
  go_wp2_with fail
  refine (made_none _).mono ?_
  rintro e w' ⟨rfl, rfl⟩
  go_wp2_with fail
  refine leaves_cons (f := 33) (args := #[.pointer (some ⟨t, 0, none⟩)]) (by simp) (by simp [go_sem]) ?_
  refine (unlock_deferred muLib ⟨t, 0, none⟩ .returning _ (World.cell?_setCell_same _ _ _ lk) (by simp [fz])).mono ?_
  rintro e u' w'' ⟨rfl, rfl, rfl⟩
  exact ⟨_, results_tmp rfl _ _ _, rfl, HT.out.locked, touch_locked rfl⟩

theorem made_tab_yes (t : Nat) (mo : Option Nat) (n : Nat) (D : DataW Unit) (s : ByteArray) (hs : s.size ≤ 1000) (w : World) (T : Tab t mo n D w) (b : Nat) (hl : Leads D (kl s) b) (v : Int) (M : Made b v w) (hbt : ¬ b = t) :
    Calls Try.prog 17 #[.pointer (some ⟨t, 0, none⟩), .string s] w (Same t mo n D w (.bool true)) := by
  have hlk : (Instr.lookup 59 (.map mo) (.string s) false).run Try.prog (w.setCell ⟨t, 0, none⟩ (.int .i32 1)) = .ok (.pointer (some ⟨b, 0, none⟩)) (w.setCell ⟨t, 0, none⟩ (.int .i32 1)) := by
    cases hmo : mo with
    | none => have := T.nil hmo; subst this; cases hl
    | some m => exact get_hit (T.ownLocked hmo) hs hl
  have c5 : (w.setCell ⟨t, 0, none⟩ (.int .i32 1)).cell? ⟨b, 5, none⟩ = some (.int .u32 1) :=
    (World.cell?_setCell_other _ ⟨t, 0, none⟩ ⟨b, 5, none⟩ _ (fun e => hbt (congrArg Addr.block e).symm)).trans M.c5
  have hmp := T.mpLocked
  have HT := Lib.hid T
  have lk := T.lk
  have fz := T.fz 0
  clear T hl M hbt
  go_enter_defers Try.func17, Try.ntmps17
  go_wp2_with fail
  refine (lock_free muLib ⟨t, 0, none⟩ _ lk fz).mono ?_
  rintro e w' ⟨rfl, rfl⟩
  go_wp2_with fail
  refine (made_yes b _ c5).mono ?_
  rintro e w' ⟨rfl, rfl⟩
  go_wp2_with fail
  refine leaves_cons (f := 33) (args := #[.pointer (some ⟨t, 0, none⟩)]) (by simp) (by simp [go_sem]) ?_
  refine (unlock_deferred muLib ⟨t, 0, none⟩ .returning _ (World.cell?_setCell_same _ _ _ lk) (by simp [fz])).mono ?_
  rintro e u' w'' ⟨rfl, rfl, rfl⟩
  exact ⟨_, results_tmp rfl _ _ _, rfl, HT.out.locked, touch_locked rfl⟩

def Dropped (t : Nat) (mo : Option Nat) (n : Nat) (D : DataW Unit) (w : World) (e : Ending) (w' : World) : Prop :=
  e = .returned (.tuple #[]) ∧ Tab t mo n D w' ∧ Touch (TS t mo) w w'

theorem Touch.turned {S : Nat → Prop} {a w w' : World} {m : Nat} (h : Touch S a w) (ht : w.mapTurned w' m) (hm : S m ∨ a.heap.size ≤ m) : Touch S a w' := by
  have g := ht.grown
  exact ⟨g.os.trans h.os, g.tape.trans h.tape, g.output.trans h.output, Nat.le_trans h.size g.size, fun k hk hn => (g.block k (Nat.lt_of_lt_of_le hk h.size) (fun e => by
    have e' : k = m := Option.some.inj e
    subst e'
    rcases hm with hm | hm
    · exact hn hm
    · omega)).trans (h.block k hk hn)⟩

theorem cell_turned {w w' : World} {m : Nat} (ht : w.mapTurned w' m) {p : Addr} (hp : m ≠ p.block) (hl : p.block < w.heap.size) : w'.cell? p = w.cell? p :=
  World.cell?_of_block (w := w) (ht.grown.block p.block hl (fun e => hp (Option.some.inj e).symm))

theorem drop_any (t : Nat) (mo : Option Nat) (n : Nat) (D : DataW Unit) (s : ByteArray) (hs : s.size ≤ 1000) (w : World) (T : Tab t mo n D w) :
    Calls Try.prog 16 #[.pointer (some ⟨t, 0, none⟩), .string s] w (Dropped t mo n (D.del (kl s)) w) := by
  obtain ⟨w1, hrun, lk1, fz1, hend⟩ : ∃ w1, (Builtin.delete_ #[59, 9] 0 #[.map mo, .string s]).run Try.prog (w.setCell ⟨t, 0, none⟩ (.int .i32 1)) = .ok (.tuple #[]) w1 ∧
      w1.cell? ⟨t, 0, none⟩ = some (.int .i32 1) ∧ w1.frozen? ⟨t, 0, none⟩ = false ∧
      Hid (Tab t mo n (D.del (kl s)) (w1.setCell ⟨t, 0, none⟩ (.int .i32 0)) ∧ Touch (TS t mo) w (w1.setCell ⟨t, 0, none⟩ (.int .i32 0))) := by
    cases hmo : mo with
    | none =>
      subst hmo
      refine ⟨_, Maps.drop_nil skey Try.underlying59 (key_kl s hs) 0, World.cell?_setCell_same _ _ _ T.lk, by simp [T.fz 0], ?_, ?_⟩
      · have e : D.del (kl s) = D := by rw [T.nil rfl]; rfl
        rw [e]
        exact T.locked
      · exact touch_locked (Or.inl rfl)
    | some m =>
      subst hmo
      obtain ⟨w1, hrun, hown1, ht⟩ := (T.ownLocked rfl).drop skey (e := 23) Try.underlying59 (key_kl s hs) 0
      have hne := ne_of_map (T.own m rfl) T.lk
      have hl : t < w.heap.size := lt_of_cell? T.lk
      have ec := fun o => cell_turned ht (p := ⟨t, o, none⟩) hne (by simpa using hl)
      refine ⟨w1, hrun, (ec 0).trans (World.cell?_setCell_same _ _ _ T.lk), by rw [ht.frozen]; simp [T.fz 0], ⟨?_, ?_, fun o => ?_, fun m' hm' => ?_, fun h => by cases h⟩, ?_⟩
      · exact World.cell?_setCell_same _ _ _ ((ec 0).trans (World.cell?_setCell_same _ _ _ T.lk))
      · rw [cell_ne _ _ (by omega), ec 2, cell_ne _ _ (by omega)]; exact T.mp
      · simp [ht.frozen, T.fz o]
      · cases hm'
        exact hown1.setCell hne _
      · exact ((((Touch.refl _ w).setCell (p := ⟨t, 0, none⟩) (Or.inl (Or.inl rfl)) _).turned ht (Or.inl (Or.inr rfl))).setCell (p := ⟨t, 0, none⟩) (Or.inl (Or.inl rfl)) _)
  have hmp := T.mpLocked
  have lk := T.lk
  have fz := T.fz 0
  clear T
  go_enter_defers Try.func16, Try.ntmps16
  go_wp2_with fail
  refine (lock_free muLib ⟨t, 0, none⟩ _ lk fz).mono ?_
  rintro e w' ⟨rfl, rfl⟩
  go_wp2_with fail
  refine leaves_cons (f := 33) (args := #[.pointer (some ⟨t, 0, none⟩)]) (by simp) (by simp [go_sem]) ?_
  refine (unlock_deferred muLib ⟨t, 0, none⟩ .returning _ lk1 fz1).mono ?_
  rintro e u' w'' ⟨rfl, rfl, rfl⟩
  exact ⟨_, results_none rfl _ _ _, rfl, hend.out.1, hend.out.2⟩

/-- claim, where the key has a cell. -/
theorem claim_hit (t : Nat) (mo : Option Nat) (n : Nat) (D : DataW Unit) (s : ByteArray) (hs : s.size ≤ 1000) (mk : Value) (w : World) (T : Tab t mo n D w) (b : Nat) (hl : Leads D (kl s) b) :
    Calls Try.prog 31 #[.pointer (some ⟨t, 0, none⟩), .string s, mk] w (Same t mo n D w (.pointer (some ⟨b, 0, none⟩))) := by
  have hlk : (Instr.lookup 59 (.map mo) (.string s) true).run Try.prog (w.setCell ⟨t, 0, none⟩ (.int .i32 1)) = .ok (.tuple #[.pointer (some ⟨b, 0, none⟩), .bool true]) (w.setCell ⟨t, 0, none⟩ (.int .i32 1)) := by
    cases hmo : mo with
    | none => have := T.nil hmo; subst this; cases hl
    | some m => exact look_hit (T.ownLocked hmo) hs hl
  have hmp := T.mpLocked
  have HT := Lib.hid T
  have lk := T.lk
  have fz := T.fz 0
  clear T hl
  go_enter_defers Try.func31, Try.ntmps31
  go_wp2_with fail
  refine (lock_free muLib ⟨t, 0, none⟩ _ lk fz).mono ?_
  rintro e w' ⟨rfl, rfl⟩
  go_wp2_with fail
  refine leaves_cons (f := 33) (args := #[.pointer (some ⟨t, 0, none⟩)]) (by simp) (by simp [go_sem]) ?_
  refine (unlock_deferred muLib ⟨t, 0, none⟩ .returning _ (World.cell?_setCell_same _ _ _ lk) (by simp [fz])).mono ?_
  rintro e u' w'' ⟨rfl, rfl, rfl⟩
  exact ⟨_, results_tmp rfl _ _ _, rfl, HT.out.locked, touch_locked rfl⟩
end Go.Proofs.Ytnhepceannajeaa
