/- lariatlaw1.OnceCells: the state of its second and third loop, and what asking a cell does to it. -/
import Derived.Test.YtnhepceannajeaaCells
namespace Go.Proofs.Ytnhepceannajeaa
open Go.RowKit Go.MuLone Go.Conc.Locks Go.Maps

structure Loop2 (B bv bk Bc n : Nat) (a : Option Addr) (len cap : Nat) (cb ib : Nat → Nat) (f : Nat → Int) (g Ba : Nat) (made ask : Nat → Bool) (w0 w : World) : Prop where
  at' : CellsAt B bv bk Bc n a len cap n cb ib made f w0 w
  row : ∀ m, m < n → w.cell? ⟨g, m, none⟩ = some (.pointer (some ⟨cb m, 0, none⟩))
  ask : ∀ m, m < n → w.cell? ⟨Ba, m, none⟩ = some (.bool (ask m)) ∧ w.frozen? ⟨Ba, m, none⟩ = false
  lowA : B ≤ Ba

section
variable {B bv bk Bc n : Nat} {a : Option Addr} {len cap : Nat} {cb ib : Nat → Nat} {f : Nat → Int} {g Ba : Nat} {made ask : Nat → Bool} {w0 w : World}

theorem Loop2.drew (L : Loop2 B bv bk Bc n a len cap cb ib f g Ba made ask w0 w) : Loop2 B bv bk Bc n a len cap cb ib f g Ba made ask w0 w.drew :=
  ⟨L.at'.same (Touch.refl _ w).drew, fun m hm => by rw [World.cell?_drew]; exact L.row m hm, fun m hm => ⟨by rw [World.cell?_drew]; exact (L.ask m hm).1, by simpa using (L.ask m hm).2⟩, L.lowA⟩

theorem Loop2.ne_g (L : Loop2 B bv bk Bc n a len cap cb ib f g Ba made ask w0 w) (h0 : 0 < n) {k : Nat} {x : Value} (hx : w.cell? ⟨k, 0, none⟩ = some x) (hp : NoPtr x) : ¬ g = k := by
  intro e
  subst e
  rw [L.row 0 h0] at hx
  exact hp _ (Option.some.inj hx).symm
theorem Loop2.ne_A (L : Loop2 B bv bk Bc n a len cap cb ib f g Ba made ask w0 w) (h0 : 0 < n) {k : Nat} {x : Value} (hx : w.cell? ⟨k, 0, none⟩ = some x) (hp : ∀ b, ¬ x = .bool b) : ¬ Ba = k := by
  intro e
  subst e
  rw [(L.ask 0 h0).1] at hx
  exact hp _ (Option.some.inj hx).symm

theorem Loop2.u32 (L : Loop2 B bv bk Bc n a len cap cb ib f g Ba made ask w0 w) {m : Nat} (hm : m < n) : ∃ d, w.cell? ⟨cb m, 0, none⟩ = some (.int .u32 d) := by
  cases h : made m
  · exact ⟨0, (L.at'.no m hm h).c0⟩
  · exact ⟨1, (L.at'.yes m hm h).c0⟩

theorem u32_ne {w : World} {k k' : Nat} {x : Value} (h : ∃ d, w.cell? ⟨k, 0, none⟩ = some (.int .u32 d)) (hx : w.cell? ⟨k', 0, none⟩ = some x) (hu : ∀ d, ¬ x = .int .u32 d) : ¬ k' = k := by
  intro e
  subst e
  obtain ⟨d, h⟩ := h
  rw [hx] at h
  exact hu d (Option.some.inj h)

/-- What a turn of cell m alone, and of its own count, leaves of the others. -/
theorem Loop2.turn (L : Loop2 B bv bk Bc n a len cap cb ib f g Ba made ask w0 w) {m : Nat} (hm : m < n) {w' : World} (h : Touch (fun k => k = cb m ∨ k = Bc) w w')
    (hc : ∀ m', m' < n → w'.cell? ⟨Bc, m', none⟩ = some (.int .i64 (one (mark made m m'))) ∧ w'.frozen? ⟨Bc, m', none⟩ = false) (hM : Made (cb m) (f m) w') :
    Loop2 B bv bk Bc n a len cap cb ib f g Ba (mark made m) ask w0 w' := by
  have h0 : 0 < n := by omega
  have u := L.u32 hm
  have nc : ∀ {k : Nat} {x : Value}, w.cell? ⟨k, 0, none⟩ = some x → (∀ d, ¬ x = .int .u32 d) → ¬ k = cb m := fun hx hu => u32_ne u hx hu
  have cB : w.cell? ⟨Bc, 0, none⟩ = some (.int .i64 (one (made 0))) := (L.at'.calls 0 h0).1
  have ng : ¬ (g = cb m ∨ g = Bc) := by
    rintro (e | e)
    · obtain ⟨d, hd⟩ := u
      exact L.ne_g h0 hd (noptr_int _ _) e
    · exact L.ne_g h0 cB (noptr_int _ _) e
  have nA : ¬ (Ba = cb m ∨ Ba = Bc) := by
    rintro (e | e)
    · obtain ⟨d, hd⟩ := u
      exact L.ne_A h0 hd (fun b h => by cases h) e
    · exact L.ne_A h0 cB (fun b h => by cases h) e
  have nv : ¬ (bv = cb m ∨ bv = Bc) := by
    rintro (e | e)
    · exact nc L.at'.vv.c (fun d h => by cases h) e
    · exact L.at'.nv e
  have nk : ¬ (bk = cb m ∨ bk = Bc) := by
    rintro (e | e)
    · exact nc L.at'.vk.c (fun d h => by cases h) e
    · exact L.at'.nk e
  have ni : ∀ m', m' < n → ¬ (ib m' = cb m ∨ ib m' = Bc) := by
    rintro m' hm' (e | e)
    · exact nc (L.at'.box m' hm').c (fun d h => by cases h) e
    · exact L.at'.ni m' hm' e
  have no : ∀ m', m' < n → ¬ m' = m → ¬ (cb m' = cb m ∨ cb m' = Bc) := by
    rintro m' hm' hne (e | e)
    · exact hne (L.at'.apart m' m hm' hm e)
    · exact u32_ne (L.u32 hm') cB (fun d h => by cases h) e.symm
  refine ⟨⟨L.at'.vv.touch h nv, L.at'.vk.touch h nk, hc, fun m' hm' e => ?_, fun m' hm' e => ?_, fun m' hm' => (L.at'.box m' hm').touch h (ni m' hm'), L.at'.ni, L.at'.nv, L.at'.nk, L.at'.apart, L.at'.lowB, L.at'.lowc, L.at'.jn, Nat.le_trans L.at'.low h.size, ?_⟩, fun m' hm' => ?_, fun m' hm' => ?_, L.lowA⟩
  · by_cases e' : m' = m
    · subst e'; exact hM
    · rw [mark_other _ e'] at e
      exact (L.at'.yes m' hm' e).touch h (no m' hm' e')
  · by_cases e' : m' = m
    · subst e'; rw [mark_same] at e; cases e
    · rw [mark_other _ e'] at e
      exact (L.at'.no m' hm' e).touch h (no m' hm' e')
  · refine L.at'.below.trans (h.below L.at'.low (fun k hk hs => ?_))
    have h1 := L.at'.lowc m hm
    have h2 := L.at'.lowB
    rcases hs with hs | hs <;> omega
  · exact (h.cell (p := ⟨g, m', none⟩) (by have := lt_of_cell? (L.row m' hm'); simpa using this) ng).trans (L.row m' hm')
  · have := lt_of_cell? (L.ask m' hm').1
    exact ⟨(h.cell (p := ⟨Ba, m', none⟩) this nA).trans (L.ask m' hm').1, (h.frozen (p := ⟨Ba, m', none⟩) this nA).trans (L.ask m' hm').2⟩

/-- Asking cell m. -/
theorem cell_get (L : Loop2 B bv bk Bc n a len cap cb ib f g Ba made ask w0 w) {m : Nat} (hm : m < n) (hml : m < len) (hV : Vals w0 a len f) (hB : w0.heap.size ≤ B) :
    Calls Try.prog 19 #[.pointer (some ⟨cb m, 0, none⟩)] w fun e w' => e = .returned (.int .i64 (f m)) ∧ Loop2 B bv bk Bc n a len cap cb ib f g Ba (mark made m) ask w0 w' := by
  obtain ⟨b, off, rfl, hb, hz⟩ := hV m hml
  cases hmd : made m
  · have U := L.at'.no m hm hmd
    have hT : Touch (fun k => k = cb m) w (atMake (cb m) w) := touch_atMake rfl
    have cB : w.cell? ⟨Bc, 0, none⟩ = some (.int .i64 (one (made 0))) := (L.at'.calls 0 (by omega)).1
    have u : ∃ d, w.cell? ⟨cb m, 0, none⟩ = some (.int .u32 d) := ⟨0, U.c0⟩
    have nB : ¬ Bc = cb m := u32_ne u cB (fun d h => by cases h)
    have n1 : ¬ bk = cb m := u32_ne u L.at'.vk.c (fun d h => by cases h)
    have n2 : ¬ bv = cb m := u32_ne u L.at'.vv.c (fun d h => by cases h)
    have n3 : ¬ ib m = cb m := u32_ne u (L.at'.box m hm).c (fun d h => by cases h)
    have hbB : b < B := by omega
    have n4 : ¬ b = cb m := fun e => by have := L.at'.lowc m hm; omega
    have n5 : ¬ b = Bc := fun e => by have := L.at'.lowB; omega
    have hcm := L.at'.calls m hm
    rw [hmd] at hcm
    have ltB : Bc < w.heap.size := by have := lt_of_cell? hcm.1; simpa using this
    have hzw : w.cell? ⟨b, off + m, none⟩ = some (.int .i64 (f m)) := (L.at'.below.cell (p := ⟨b, off + m, none⟩) hbB).trans hz
    refine (get_unmade (cb m) _ w (fun v w' => v = f m ∧ w' = (atMake (cb m) w).setCell ⟨Bc, m, none⟩ (.int .i64 1)) U (call_mk 23 _ _ _ enters23
      (make23 bk (ib m) bv Bc n b off len cap m hm hml (f m) _ (L.at'.vk.touch hT n1) ((L.at'.box m hm).touch hT n3) (L.at'.vv.touch hT n2)
        ((hT.cell (p := ⟨Bc, m, none⟩) ltB nB).trans hcm.1) ((hT.frozen (p := ⟨Bc, m, none⟩) ltB nB).trans hcm.2)
        ((hT.cell (p := ⟨b, off + m, none⟩) (by have := lt_of_cell? hzw; simpa using this) n4).trans hzw) (L.at'.ni m hm) L.at'.nv n5)) ?_).mono ?_
    · rintro v w' ⟨rfl, rfl⟩
      exact (keeps_atMake U).touch ((Touch.refl (fun k => k = Bc) _).setCell (p := ⟨Bc, m, none⟩) (Or.inl rfl) _) (fun e => nB e.symm)
    · rintro e w' ⟨v, w1, ⟨rfl, hw1⟩, rfl, rfl⟩
      have K1 : Keeps (cb m) w1 := by rw [hw1]; exact (keeps_atMake U).touch ((Touch.refl (fun k => k = Bc) _).setCell (p := ⟨Bc, m, none⟩) (Or.inl rfl) _) (fun e => nB e.symm)
      have T1 : Touch (fun k => k = cb m ∨ k = Bc) w w1 := by
        rw [hw1]
        exact (hT.mono (T := fun k => k = cb m ∨ k = Bc) (fun _ _ h => Or.inl h)).setCell (p := ⟨Bc, m, none⟩) (Or.inl (Or.inr rfl)) _
      have T2 : Touch (fun k => k = cb m) w1 (doneBy (cb m) (f m) w1) := touch_done (S := fun k => k = cb m) (Touch.refl _ _) (Or.inl rfl) _
      refine ⟨rfl, L.turn hm (T1.trans (T2.mono (fun _ _ h => Or.inl h))) (fun m' hm' => ?_) (made_done (f m) K1)⟩
      have lt1 : Bc < w1.heap.size := Nat.lt_of_lt_of_le ltB T1.size
      rw [T2.cell (p := ⟨Bc, m', none⟩) lt1 nB, T2.frozen (p := ⟨Bc, m', none⟩) lt1 nB, hw1]
      have hcm' := L.at'.calls m' hm'
      by_cases e : m' = m
      · subst e
        rw [mark_same]
        exact ⟨World.cell?_setCell_same _ _ _ ((hT.cell (p := ⟨Bc, m', none⟩) ltB nB).trans hcm.1), by simp [hT.frozen (p := ⟨Bc, m', none⟩) ltB nB, hcm.2]⟩
      · rw [mark_other _ e, cell_ne _ _ (fun h => e h.symm), hT.cell (p := ⟨Bc, m', none⟩) ltB nB]
        exact ⟨hcm'.1, by simp [hT.frozen (p := ⟨Bc, m', none⟩) ltB nB, hcm'.2]⟩
  · have M := L.at'.yes m hm hmd
    refine (get_made (cb m) (f m) w M).mono ?_
    rintro e w' ⟨rfl, rfl⟩
    have T1 : Touch (fun k => k = cb m) w (againBy (cb m) w) := touch_again (S := fun k => k = cb m) (Touch.refl _ _) (Or.inl rfl)
    have cB : w.cell? ⟨Bc, 0, none⟩ = some (.int .i64 (one (made 0))) := (L.at'.calls 0 (by omega)).1
    have nB : ¬ Bc = cb m := u32_ne ⟨1, M.c0⟩ cB (fun d h => by cases h)
    have e : mark made m = made := by
      funext m'
      by_cases e : m' = m
      · subst e; rw [mark_same, hmd]
      · rw [mark_other _ e]
    refine ⟨rfl, L.turn hm (T1.mono (fun _ _ h => Or.inl h)) (fun m' hm' => ?_) (made_again M)⟩
    rw [e]
    have hcm := L.at'.calls m' hm'
    have lt1 : Bc < w.heap.size := by have := lt_of_cell? hcm.1; simpa using this
    exact ⟨(T1.cell (p := ⟨Bc, m', none⟩) lt1 nB).trans hcm.1, (T1.frozen (p := ⟨Bc, m', none⟩) lt1 nB).trans hcm.2⟩

/-- Is cell m made? -/
theorem cell_made (L : Loop2 B bv bk Bc n a len cap cb ib f g Ba made ask w0 w) {m : Nat} (hm : m < n) :
    Calls Try.prog 24 #[.pointer (some ⟨cb m, 0, none⟩)] w fun e w' => e = .returned (.bool (made m)) ∧ w = w' := by
  cases hmd : made m
  · exact made_no _ _ (L.at'.no m hm hmd).c5
  · exact made_yes _ _ (L.at'.yes m hm hmd).c5

/-- 'asked[m] = true'. -/
theorem Loop2.note (L : Loop2 B bv bk Bc n a len cap cb ib f g Ba made ask w0 w) {m : Nat} (hm : m < n) : Loop2 B bv bk Bc n a len cap cb ib f g Ba made (mark ask m) w0 (w.setCell ⟨Ba, m, none⟩ (.bool true)) := by
  have h0 : 0 < n := by omega
  have h : Touch (fun k => k = Ba) w (w.setCell ⟨Ba, m, none⟩ (.bool true)) := (Touch.refl (fun k => k = Ba) w).setCell (p := ⟨Ba, m, none⟩) (Or.inl rfl) _
  have nA : ∀ {k : Nat} {x : Value}, w.cell? ⟨k, 0, none⟩ = some x → (∀ b, ¬ x = .bool b) → ¬ k = Ba := fun hx hp e => L.ne_A h0 hx hp e.symm
  refine ⟨L.at'.grow h (nA L.at'.vv.c (fun b h => by cases h)) (nA L.at'.vk.c (fun b h => by cases h)) (fun _ => nA (L.at'.calls 0 h0).1 (fun b h => by cases h)) (fun m' hm' => ?_) (fun m' hm' => nA (L.at'.box m' hm').c (fun b h => by cases h)) (fun k hk => hk ▸ L.lowA), fun m' hm' => ?_, fun m' hm' => ?_, L.lowA⟩
  · obtain ⟨d, hd⟩ := L.u32 hm'
    exact nA hd (fun b h => by cases h)
  · exact (h.cell (p := ⟨g, m', none⟩) (by have := lt_of_cell? (L.row m' hm'); simpa using this) (nA (L.row 0 h0) (fun b h => by cases h))).trans (L.row m' hm')
  · by_cases e : m' = m
    · subst e
      rw [mark_same]
      exact ⟨World.cell?_setCell_same _ _ _ (L.ask m' hm').1, by simp [(L.ask m' hm').2]⟩
    · rw [mark_other _ e, cell_ne _ _ (fun h => e h.symm)]
      exact ⟨(L.ask m' hm').1, by simp [(L.ask m' hm').2]⟩
end
end Go.Proofs.Ytnhepceannajeaa
