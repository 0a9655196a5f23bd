/- The contract of claim where the key has no cell. -/
import Derived.Test.YtnhepceannajeaaTab
namespace Go.Proofs.Ytnhepceannajeaa
open Go.RowKit Go.MuLone Go.Conc.Locks Go.Maps

/-- A function value, or nil. -/
def IsMk (mk : Value) : Prop := (∃ f a c, mk = .func f a c) ∨ mk = .nilFunc

theorem new_any (mk : Value) (h : IsMk mk) (w : World) :
    Calls Try.prog 9 #[mk] w fun e w' => e = .returned (.pointer (some ⟨w.heap.size, 0, none⟩)) ∧ w' = w.alloc (fresh mk) := by
  rcases h with ⟨f, a, c, rfl⟩ | rfl
  · exact new_mk f a c w
  · exact new_nil w

/-- What claim leaves where the key had no cell: a new one, with the function that was handed in. -/
def Claimed (t : Nat) (mo : Option Nat) (n : Nat) (D : DataW Unit) (s : ByteArray) (mk : Value) (w : World) (e : Ending) (w' : World) : Prop :=
  ∃ b m, e = .returned (.pointer (some ⟨b, 0, none⟩)) ∧ w.heap.size ≤ b ∧ Tab t (some m) (n + 1) (D.put (kl s) (.lit (.int .i64 b))) w' ∧ (mo = some m ∨ w.heap.size ≤ m) ∧ Unmade b mk w' ∧ Touch (TS t mo) w w'

/-- The store of the new cell, behind the copy of the key. -/
theorem store_new {W w1 : World} {t m n : Nat} {D : DataW Unit} {s : ByteArray} {mk : Value} {b : Nat} (hs : s.size ≤ 1000) (hn : n < 1000000) (hb : Below W.heap.size W.drew w1)
    (lk : W.cell? ⟨t, 0, none⟩ = some (.int .i32 1)) (mp : W.cell? ⟨t, 2, none⟩ = some (.map (some m))) (fz : ∀ o, W.frozen? ⟨t, o, none⟩ = false) (own : W.ownsMap Try.prog 9 ptrElem m n D) (U : Unmade b mk W) (hbt : ¬ b = t) :
    w1.cell? ⟨t, 2, none⟩ = some (.map (some m)) ∧ ∃ w2, (Instr.mapUpdate 59 (.map (some m)) (.string s) (.pointer (some ⟨b, 0, none⟩))).run Try.prog w1 = .ok () w2 ∧ w2.cell? ⟨t, 2, none⟩ = some (.map (some m)) ∧ w2.cell? ⟨t, 0, none⟩ = some (.int .i32 1) ∧ w2.frozen? ⟨t, 0, none⟩ = false ∧
      Hid (Tab t (some m) (n + 1) (D.put (kl s) (.lit (.int .i64 b))) (w2.setCell ⟨t, 0, none⟩ (.int .i32 0)) ∧ Unmade b mk (w2.setCell ⟨t, 0, none⟩ (.int .i32 0)) ∧ Touch (TS t (some m)) W (w2.setCell ⟨t, 0, none⟩ (.int .i32 0))) := by
  have hl : t < W.heap.size := lt_of_cell? lk
  have hT : Touch (fun _ => False) W w1 := ⟨hb.os, hb.tape, hb.output, hb.size, fun k hk _ => hb.block k hk⟩
  have e := fun o => hT.cell (p := ⟨t, o, none⟩) hl (fun h => h)
  have f := fun o => hT.frozen (p := ⟨t, o, none⟩) hl (fun h => h)
  have own1 := ownsMap_block own (hT.block m own.lt (fun h => h))
  have U1 := U.touch hT (fun h => h)
  obtain ⟨w2, hrun, hown2, ht⟩ := own1.store (t := 59) (e := 23) skey Try.underlying59 (by unfold maxLen; omega) (key_kl s hs) (ptrElem_mk b)
  have hne := ne_of_map own lk
  have hl1 : t < w1.heap.size := Nat.lt_of_lt_of_le hl hT.size
  have ec := fun o => cell_turned ht (p := ⟨t, o, none⟩) hne hl1
  have hT2 : Touch (fun k => k = m) w1 w2 := (Touch.refl _ w1).turned ht (Or.inl rfl)
  have U2 := U1.touch hT2 (fun h => ne_of_map own1 U1.c0 h.symm)
  have hT3 : Touch (fun k => k = t) w2 (w2.setCell ⟨t, 0, none⟩ (.int .i32 0)) := (Touch.refl (fun k => k = t) w2).setCell (p := ⟨t, 0, none⟩) (Or.inl rfl) _
  refine ⟨(e 2).trans mp, w2, hrun, (ec 2).trans ((e 2).trans mp), (ec 0).trans ((e 0).trans lk), ?_, ⟨?_, ?_, fun o => ?_, fun m' hm' => ?_, fun h => by cases h⟩, U2.touch hT3 hbt, ?_⟩
  · rw [ht.frozen, f 0]; exact fz 0
  · exact World.cell?_setCell_same _ _ _ ((ec 0).trans ((e 0).trans lk))
  · rw [cell_ne _ _ (by omega), ec 2, e 2]; exact mp
  · have := (ht.frozen ⟨t, o, none⟩).trans ((f o).trans (fz o))
    simp [this]
  · cases hm'
    exact hown2.setCell hne _
  · exact ((hT.mono (fun _ _ h => h.elim)).turned ht (Or.inl (Or.inr rfl))).setCell (p := ⟨t, 0, none⟩) (Or.inl (Or.inl rfl)) _

set_option maxHeartbeats 1600000 in
theorem claim_miss_some (t m n : Nat) (D : DataW Unit) (s : ByteArray) (hs : s.size ≤ 1000) (hn : n < 1000000) (mk : Value) (hmk : IsMk mk) (w : World) (T : Tab t (some m) n D w) (hh : Maps.has D (kl s) = false) :
    Calls Try.prog 31 #[.pointer (some ⟨t, 0, none⟩), .string s, mk] w (Claimed t (some m) n D s mk w) := by
  have hlk := look_miss (T.ownLocked rfl) hs hh
  have hmp := T.mpLocked
  have hq : ∀ (w : World) (r : Option Nat), (binOp .eql 59 (.map r) (.map none)).run Try.prog w = .ok (.bool r.isNone) w := fun w r => run_eql_map_nil w _ _ _ r Try.underlying59
  have HT := Lib.hid T
  have lk := T.lk
  have fz := T.fz 0
  clear T hh
  go_enter_defers Try.func31, Try.ntmps31
  go_wp2_with fail
  refine (lock_free muLib ⟨t, 0, none⟩ _ lk fz).mono ?_
  rintro e w' ⟨rfl, rfl⟩
  go_wp2_with fail
  refine (new_any mk hmk _).mono ?_
  rintro e w' ⟨rfl, rfl⟩
  have hl : t < w.heap.size := lt_of_cell? lk
  obtain ⟨W, hW⟩ : ∃ W, W = (w.setCell ⟨t, 0, none⟩ (.int .i32 1)).alloc (fresh mk) := ⟨_, rfl⟩
  have tW : Touch (fun k => k = t) w W := by rw [hW]; exact ((Touch.refl (fun k => k = t) w).setCell (p := ⟨t, 0, none⟩) (Or.inl rfl) _).alloc _
  have lkW : W.cell? ⟨t, 0, none⟩ = some (.int .i32 1) := by rw [hW, World.cell?_alloc_past _ _ _ (by simpa using hl)]; exact World.cell?_setCell_same _ _ _ lk
  have mpW : W.cell? ⟨t, 2, none⟩ = some (.map (some m)) := by rw [hW, World.cell?_alloc_past _ _ _ (by simpa using hl)]; exact hmp
  have fzW : ∀ o, W.frozen? ⟨t, o, none⟩ = false := fun o => by rw [hW, World.frozen?_alloc_old _ _ _ (by simp; omega)]; simp [HT.out.fz o]
  have ownW : W.ownsMap Try.prog 9 ptrElem m n D := by rw [hW]; exact (HT.out.ownLocked rfl).alloc _
  have UW : Unmade w.heap.size mk W := by rw [hW]; simpa using unmade_fresh mk (w.setCell ⟨t, 0, none⟩ (.int .i32 1))
  have hbt : ¬ w.heap.size = t := by omega
  simp only [World.size_setCell]
  rw [← hW]
  have HtW := Lib.hid tW
  have HfW := Lib.hid fzW
  have HoW := Lib.hid ownW
  have HUW := Lib.hid UW
  have HlW := Lib.hid lkW
  have HmW := Lib.hid mpW
  clear hW tW fzW ownW UW lkW hlk hmp lk fz hq
  go_wp2_with fail
  go_region_held3 (fun w' => w'.cell? ⟨t, 2, none⟩ = some (.map (some m))) (first | exact mpW | assumption)
    (first | (go_at_call 38; refine (clone_any s _ (by omega)).mono ?_; rintro e w1 ⟨rfl, hb⟩; obtain ⟨hc1, w2, hrun, mp2, lk2, fz2, hend⟩ := store_new hs hn hb HlW.out HmW.out HfW.out HoW.out HUW.out hbt; clear hb))
  clear hrun hc1 mp2 mpW
  go_wp2_with fail
  refine leaves_cons (f := 33) (args := #[.pointer (some ⟨t, 0, none⟩)]) (by simp) (by simp [go_sem]) ?_
  refine (unlock_deferred muLib ⟨t, 0, none⟩ .returning _ lk2 fz2).mono ?_
  rintro e u' w'' ⟨rfl, rfl, rfl⟩
  exact ⟨_, results_tmp rfl _ _ _, w.heap.size, m, rfl, Nat.le_refl _, hend.out.1, Or.inl rfl, hend.out.2.1, (HtW.out.mono (fun _ _ h => Or.inl h)).trans hend.out.2.2⟩

set_option maxHeartbeats 1600000 in
theorem claim_miss_none (t n : Nat) (D : DataW Unit) (s : ByteArray) (hs : s.size ≤ 1000) (hn : n < 1000000) (mk : Value) (hmk : IsMk mk) (w : World) (T : Tab t none n D w) :
    Calls Try.prog 31 #[.pointer (some ⟨t, 0, none⟩), .string s, mk] w (Claimed t none n D s mk w) := by
  have hlk : (Instr.lookup 59 (.map none) (.string s) true).run Try.prog (w.setCell ⟨t, 0, none⟩ (.int .i32 1)) = .ok (.tuple #[.pointer none, .bool false]) (w.setCell ⟨t, 0, none⟩ (.int .i32 1)) :=
    Maps.look_nil true skey Try.underlying59 (Try.zeroValue23 _) (key_kl s hs)
  have hmp := T.mpLocked
  have hq : ∀ (w : World) (r : Option Nat), (binOp .eql 59 (.map r) (.map none)).run Try.prog w = .ok (.bool r.isNone) w := fun w r => run_eql_map_nil w _ _ _ r Try.underlying59
  have hmm := @run_makeMap Try.prog
  have HT := Lib.hid T
  have lk := T.lk
  have fz := T.fz 0
  have fz2 := T.fz 2
  clear T
  go_enter_defers Try.func31, Try.ntmps31
  go_wp2_with fail
  refine (lock_free muLib ⟨t, 0, none⟩ _ lk fz).mono ?_
  rintro e w' ⟨rfl, rfl⟩
  have hl : t < w.heap.size := lt_of_cell? lk
  have hc2 : ((w.setCell ⟨t, 0, none⟩ (.int .i32 1)).alloc (.map #[] 0)).cell? ⟨t, 2, none⟩ = some (.map none) := by rw [World.cell?_alloc_past _ _ _ (by simpa using hl)]; exact hmp
  have hf2 : ((w.setCell ⟨t, 0, none⟩ (.int .i32 1)).alloc (.map #[] 0)).frozen? ⟨t, 2, none⟩ = false := by rw [World.frozen?_alloc_old _ _ _ (by simp; omega)]; simp [fz2]
  go_wp2_with fail
  refine (new_any mk hmk _).mono ?_
  rintro e w' ⟨rfl, rfl⟩
  obtain ⟨W0, hW0⟩ : ∃ W0, W0 = (w.setCell ⟨t, 0, none⟩ (.int .i32 1)).setCell ⟨t, 2, none⟩ (.map (some w.heap.size)) := ⟨_, rfl⟩
  have z0 : W0.heap.size = w.heap.size := by rw [hW0]; simp
  obtain ⟨W, hW⟩ : ∃ W, W = (W0.alloc (.map #[] 0)).alloc (fresh mk) := ⟨_, rfl⟩
  have tW : Touch (fun k => k = t) w W := by rw [hW, hW0]; exact ((((Touch.refl (fun k => k = t) w).setCell (p := ⟨t, 0, none⟩) (Or.inl rfl) _).setCell (p := ⟨t, 2, none⟩) (Or.inl rfl) _).alloc _).alloc _
  have eW : ∀ o, W.cell? ⟨t, o, none⟩ = W0.cell? ⟨t, o, none⟩ := fun o => by rw [hW, World.cell?_alloc_past _ _ _ (by simp; omega), World.cell?_alloc_past _ _ _ (by omega)]
  have lkW : W.cell? ⟨t, 0, none⟩ = some (.int .i32 1) := by rw [eW, hW0, cell_ne _ _ (by omega)]; exact World.cell?_setCell_same _ _ _ lk
  have mpW : W.cell? ⟨t, 2, none⟩ = some (.map (some w.heap.size)) := by rw [eW, hW0]; exact World.cell?_setCell_same _ _ _ hmp
  have fzW : ∀ o, W.frozen? ⟨t, o, none⟩ = false := fun o => by rw [hW, World.frozen?_alloc_old _ _ _ (by simp; omega), World.frozen?_alloc_old _ _ _ (by simp; omega), hW0]; simp [HT.out.fz o]
  have ownW : W.ownsMap Try.prog 9 ptrElem w.heap.size n D := by
    rw [hW, HT.out.nil rfl, ← z0]
    exact ((World.ownsMap_made W0 _ _ _).mono (Nat.zero_le _)).alloc _
  have UW : Unmade (w.heap.size + 1) mk W := by rw [hW]; simpa [z0] using unmade_fresh mk (W0.alloc (.map #[] 0))
  have hbt : ¬ w.heap.size + 1 = t := by omega
  simp only [World.size_setCell, World.size_alloc]
  rw [← hW0, ← hW]
  have HtW := Lib.hid tW
  have HfW := Lib.hid fzW
  have HoW := Lib.hid ownW
  have HUW := Lib.hid UW
  have HlW := Lib.hid lkW
  have HmW := Lib.hid mpW
  clear hW tW fzW ownW UW lkW hlk hmp lk fz fz2 hq hmm hc2 hf2 eW hW0 z0
  go_wp2_with fail
  go_region_held3 (fun w' => w'.cell? ⟨t, 2, none⟩ = some (.map (some w.heap.size))) (first | exact mpW | assumption)
    (first | (go_at_call 38; refine (clone_any s _ (by omega)).mono ?_; rintro e w1 ⟨rfl, hb⟩; obtain ⟨hc1, w2, hrun, mp2, lk2, fz2, hend⟩ := store_new hs hn hb HlW.out HmW.out HfW.out HoW.out HUW.out hbt; clear hb))
  clear hrun hc1 mp2 mpW
  go_wp2_with fail
  refine leaves_cons (f := 33) (args := #[.pointer (some ⟨t, 0, none⟩)]) (by simp) (by simp [go_sem]) ?_
  refine (unlock_deferred muLib ⟨t, 0, none⟩ .returning _ lk2 fz2).mono ?_
  rintro e u' w'' ⟨rfl, rfl, rfl⟩
  refine ⟨_, results_tmp rfl _ _ _, w.heap.size + 1, w.heap.size, rfl, Nat.le_succ _, hend.out.1, Or.inr (Nat.le_refl _), hend.out.2.1, ?_⟩
  have hT1 := HtW.out
  have hT2 := hend.out.2.2
  exact ⟨hT2.os.trans hT1.os, hT2.tape.trans hT1.tape, hT2.output.trans hT1.output, Nat.le_trans hT1.size hT2.size, fun k hk hnk =>
    (hT2.block k (Nat.lt_of_lt_of_le hk hT1.size) (fun h => by rcases h with h | h; exact hnk (Or.inl h); exact absurd (Option.some.inj h) (by omega))).trans (hT1.block k hk (fun h => hnk (Or.inl h)))⟩

/-- claim, where the key has no cell. -/
theorem claim_miss (t : Nat) (mo : Option Nat) (n : Nat) (D : DataW Unit) (s : ByteArray) (hs : s.size ≤ 1000) (hn : n < 1000000) (mk : Value) (hmk : IsMk mk) (w : World) (T : Tab t mo n D w) (hh : Maps.has D (kl s) = false) :
    Calls Try.prog 31 #[.pointer (some ⟨t, 0, none⟩), .string s, mk] w (Claimed t mo n D s mk w) := by
  cases mo with
  | none => exact claim_miss_none t n D s hs hn mk hmk w T
  | some m => exact claim_miss_some t m n D s hs hn mk hmk w T hh

/-- NewTable. -/
theorem newTable_any (w : World) :
    Calls Try.prog 10 #[] w fun e w' => e = .returned (.pointer (some ⟨w.heap.size, 0, none⟩)) ∧ w' = w.alloc (.cells #[.int .i32 0, .int .u32 0, .map none] 61) := by
  go_enter Try.func10, Try.ntmps10
  go_wp2_with fail
  go_ret
  exact ⟨rfl, rfl⟩

theorem tab_new (w : World) (n : Nat) : Tab w.heap.size none n (.map []) (w.alloc (.cells #[.int .i32 0, .int .u32 0, .map none] 61)) :=
  ⟨by rw [World.cell_new]; rfl, by rw [World.cell_new]; rfl, fun _ => World.frozen_new _ _ _ _, (fun m h => by cases h), fun _ => rfl⟩

/-- Get, where the key's cell is made. -/
theorem tget_made (t : Nat) (mo : Option Nat) (n : Nat) (D : DataW Unit) (s : ByteArray) (hs : s.size ≤ 1000) (mk : Value) (w : World) (T : Tab t mo n D w) (b : Nat) (hl : Leads D (kl s) b) (v : Int) (M : Made b v w) (hbt : ¬ b = t) :
    Calls Try.prog 11 #[.pointer (some ⟨t, 0, none⟩), .string s, mk] w fun e w' => e = .returned (.int .i64 v) ∧ Tab t mo n D w' ∧ Made b v w' ∧ Touch (fun k => k = t ∨ k = b) w w' := by
  have HT := Lib.hid T
  have HM := Lib.hid M
  have HL := Lib.hid hl
  clear T M hl
  go_enter Try.func11, Try.ntmps11
  go_wp2_with fail
  refine (claim_hit t mo n D s hs mk _ HT.out b HL.out).mono ?_
  rintro e w1 ⟨rfl, T1, t1⟩
  have M1 := HM.out.touch t1 hbt
  have HT1 := Lib.hid T1
  have Ht1 := Lib.hid t1
  have HM1 := Lib.hid M1
  clear T1 t1 M1
  go_wp2_with fail
  refine (get_made b v _ HM1.out).mono ?_
  rintro e w2 ⟨rfl, rfl⟩
  go_wp2_with fail
  go_ret
  have hta : Touch (fun k => k = b) w1 (againBy b w1) := touch_again (Touch.refl _ _) (Or.inl rfl)
  exact ⟨rfl, HT1.out.touch hta (fun e => hbt e.symm) (fun m hm e => ne_of_map (HT1.out.own m hm) HM1.out.c0 e), made_again HM1.out, (Ht1.out.mono (fun _ _ h => Or.inl h)).trans (hta.mono (fun _ _ h => Or.inr h))⟩

/-- Get, where the key has no cell: it is made by the function that is handed in. 'R' says what that does, from the world in which it is called. -/
def Fetched (t : Nat) (mo : Option Nat) (n : Nat) (D : DataW Unit) (s : ByteArray) (w : World) (R : Nat → Nat → World → Int → World → Prop) (e : Ending) (w' : World) : Prop :=
  ∃ b m v w1 w2, w.heap.size ≤ b ∧ (mo = some m ∨ w.heap.size ≤ m) ∧ Tab t (some m) (n + 1) (D.put (kl s) (.lit (.int .i64 b))) w1 ∧ Touch (TS t mo) w w1 ∧ Keeps b w1 ∧ R b m w1 v w2 ∧ e = .returned (.int .i64 v) ∧ w' = doneBy b v w2

theorem tget_new (t : Nat) (mo : Option Nat) (n : Nat) (D : DataW Unit) (s : ByteArray) (hs : s.size ≤ 1000) (hn : n < 1000000) (mk : Value) (hmk : IsMk mk) (w : World) (T : Tab t mo n D w) (hh : Maps.has D (kl s) = false)
    (R : Nat → Nat → World → Int → World → Prop)
    (h : ∀ b m w1, w.heap.size ≤ b → (mo = some m ∨ w.heap.size ≤ m) → Tab t (some m) (n + 1) (D.put (kl s) (.lit (.int .i64 b))) w1 → Touch (TS t mo) w w1 → Keeps b w1 → Calls Try.prog 42 #[mk] w1 (Answers (R b m w1)))
    (hR : ∀ b m w1 v w2, w.heap.size ≤ b → (mo = some m ∨ w.heap.size ≤ m) → Tab t (some m) (n + 1) (D.put (kl s) (.lit (.int .i64 b))) w1 → Touch (TS t mo) w w1 → Keeps b w1 → R b m w1 v w2 → Keeps b w2) :
    Calls Try.prog 11 #[.pointer (some ⟨t, 0, none⟩), .string s, mk] w (Fetched t mo n D s w R) := by
  have HT := Lib.hid T
  have H := Lib.hid h
  have HR := Lib.hid hR
  clear T h hR
  go_enter Try.func11, Try.ntmps11
  go_wp2_with fail
  refine (claim_miss t mo n D s hs hn mk hmk _ HT.out hh).mono ?_
  rintro e w0 ⟨b, m, rfl, hb, T0, hm, U0, t0⟩
  have hbt : ¬ t = b := fun e => by have := lt_of_cell? HT.out.lk; simp at this; omega
  have ta : Touch (fun k => k = b) w0 (atMake b w0) := touch_atMake rfl
  have T1 := T0.touch ta hbt (fun m' hm' e => ne_of_map (T0.own m' hm') U0.c0 e)
  have t1 : Touch (TS t mo) w (atMake b w0) := (t0.setCell (p := ⟨b, 1, none⟩) (Or.inr hb) _).setCell (p := ⟨b, 3, none⟩) (Or.inr hb) _
  have K1 := keeps_atMake U0
  have HU := Lib.hid U0
  have HT1 := Lib.hid T1
  have Ht1 := Lib.hid t1
  have HK1 := Lib.hid K1
  clear T0 U0 t0 ta T1 t1 K1 hh
  go_wp2_with fail
  refine (get_unmade b mk _ (R b m (atMake b w0)) HU.out (H.out b m _ hb hm HT1.out Ht1.out HK1.out) (fun v w2 hr => HR.out b m _ v w2 hb hm HT1.out Ht1.out HK1.out hr)).mono ?_
  rintro e w3 ⟨v, w2, hr, rfl, rfl⟩
  have Hr := Lib.hid hr
  clear hr
  go_wp2_with fail
  go_ret
  exact ⟨b, m, v, _, w2, hb, hm, HT1.out, Ht1.out, HK1.out, Hr.out, rfl, rfl⟩
end Go.Proofs.Ytnhepceannajeaa
