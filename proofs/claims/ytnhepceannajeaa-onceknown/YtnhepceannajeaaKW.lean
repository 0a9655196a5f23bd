/- The walk of lariatlaw1.OnceKnown. -/
import Derived.Test.YtnhepceannajeaaOK
namespace Go.Proofs.Ytnhepceannajeaa
open Go.RowKit Go.MuLone Go.Conc.Locks Go.Maps

/-- Where the law stands: a cell n that is not yet asked, a table t, the variables that lead to it and that count. -/
structure Now (B n t bt bc : Nat) (x : Int) (mo : Option Nat) (c : Nat) (G : Slots) (w0 w : World) : Prop where
  cell : Unmade n .nilFunc w
  tab : St B t mo c G w
  vt : Var bt (.pointer (some ⟨t, 0, none⟩)) w
  vc : Var bc (.int .i64 x) w
  low : B ≤ w.heap.size
  below : Below B w0 w

theorem Now.move {B n t bt bc : Nat} {x : Int} {mo mo' : Option Nat} {c c' : Nat} {G G' : Slots} {w0 w w' : World} (h : Now B n t bt bc x mo c G w0 w) (S : St B t mo' c' G' w') (m : Moves Nought B t mo w mo' w') : Now B n t bt bc x mo' c' G' w0 w' :=
  ⟨h.cell.moves h.tab m (fun h => h), S, h.vt.moves h.tab m (plain_ptr _) (fun h => h), h.vc.moves h.tab m (plain_int _) (fun h => h), Nat.le_trans h.low m.touch.size, h.below.trans (m.below h.low (fun _ h => h.elim))⟩

/-- The slots behind the two Gets. -/
noncomputable def G2 : Slots := upd (upd (fun _ => none) (kl sB) (some (.inr 10))) (kl sA) (some (.inr 11))

theorem ab : ¬ kl sA = kl sB := by simp
theorem ba : ¬ kl sB = kl sA := by simp

set_option maxHeartbeats 1600000 in
/-- The first Get, which asks for another key. -/
theorem ok_first (B n t bt bc : Nat) (w0 w : World) (hne : ¬ bt = bc) (hnc : ¬ n = bc) (hBc : B ≤ bc) (h : Now B n t bt bc 0 none 0 (fun _ => none) w0 w) :
    Calls Try.prog 11 #[.pointer (some ⟨t, 0, none⟩), .string sA, .func (.func 12) #[] #[.pointer (some ⟨bc, 0, none⟩), .pointer (some ⟨bt, 0, none⟩)]] w
      fun e w' => e = .returned (.int .i64 11) ∧ ∃ mo, Now B n t bt bc 2 mo 2 G2 w0 w' := by
  refine (get_st_new (fun k => k = bc) B t none 0 (fun _ => none) sA (by decide) (by omega) _ (Or.inl ⟨_, _, _, rfl⟩) _ h.tab rfl
    (fun b mo1' w1 v mo2 c2 G2 w2 => v = 11 ∧ c2 = 2 ∧ G2 = upd (upd (fun _ => none) (kl sA) (some (.inl b))) (kl sB) (some (.inr 10)) ∧ Var bc (.int .i64 2) w2) ?_).mono ?_
  · intro b mo1 w1 s1 m1
    have N1 := h.move s1 m1
    refine call_mk 12 _ _ _ enters12 (answers_mono (ok_out B t bc bt hne mo1 1 (by omega) _ w1 s1 (by rw [upd_other _ _ ba]) N1.vc N1.vt) ?_)
    rintro v w2 ⟨rfl, mo2, s2, m2, V2⟩
    exact ⟨mo2, _, _, s2, by rw [upd_other _ _ ab, upd_same], m2, rfl, rfl, rfl, V2⟩
  · rintro e w' ⟨b, mo1, w1, v, mo2, c2, G2', w2, rfl, s1, m1, m2, ⟨rfl, rfl, rfl, V2⟩, s2, s3, m3⟩
    have N1 := h.move s1 m1
    have N2 : Now B n t bt bc 2 mo2 2 _ w0 w2 := ⟨N1.cell.moves s1 m2 hnc, s2, N1.vt.moves s1 m2 (plain_ptr _) hne, V2, Nat.le_trans N1.low m2.touch.size, N1.below.trans (m2.below N1.low (fun k hk => hk ▸ hBc))⟩
    have N3 := N2.move s3 m3
    refine ⟨rfl, mo2, ?_⟩
    have e : upd (upd (upd (fun _ => none) (kl sA) (some (.inl b))) (kl sB) (some (.inr 10))) (kl sA) (some (.inr 11)) = G2 := by
      funext k
      unfold G2
      by_cases hA : k = kl sA
      · subst hA; rw [upd_same, upd_same]
      · by_cases hB : k = kl sB
        · subst hB; rw [upd_other _ _ hA, upd_same, upd_other _ _ hA, upd_same]
        · rw [upd_other _ _ hA, upd_other _ _ hB, upd_other _ _ hA, upd_other _ _ hA, upd_other _ _ hB]
    rw [e] at N3
    exact N3

/-- A Get with a function that captures nothing, of a key that has no cell. -/
theorem ok_new (B n t bt bc : Nat) (x : Int) (mo : Option Nat) (c : Nat) (hc : c < 1000) (G : Slots) (s : ByteArray) (hs : s.size ≤ 1000) (mk : Value) (hmk : IsMk mk) (v : Int) (w0 w : World) (h : Now B n t bt bc x mo c G w0 w) (hg : G (kl s) = none)
    (hcall : ∀ w, Calls Try.prog 42 #[mk] w (Answers fun v' w' => v' = v ∧ w' = w)) :
    Calls Try.prog 11 #[.pointer (some ⟨t, 0, none⟩), .string s, mk] w fun e w' => e = .returned (.int .i64 v) ∧ ∃ mo', Now B n t bt bc x mo' (c + 1) (upd G (kl s) (some (.inr v))) w0 w' := by
  refine (get_st_new Nought B t mo c G s hs (by omega) mk hmk w h.tab hg (fun b mo1 w1 v' mo2 c2 G2 w2 => v' = v ∧ mo2 = mo1 ∧ c2 = c + 1 ∧ G2 = upd G (kl s) (some (.inl b)) ∧ w2 = w1) ?_).mono ?_
  · intro b mo1 w1 s1 m1
    refine answers_mono (hcall w1) ?_
    rintro v' w2 ⟨rfl, rfl⟩
    exact ⟨mo1, _, _, s1, upd_same _ _ _, Moves.refl _ _ _ _ _, rfl, rfl, rfl, rfl, rfl⟩
  · rintro e w' ⟨b, mo1, w1, v', mo2, c2, G2', w2, rfl, s1, m1, m2, ⟨rfl, rfl, rfl, rfl, rfl⟩, s2, s3, m3⟩
    rw [upd_upd] at s3
    exact ⟨rfl, _, (h.move s1 m1).move s3 m3⟩

theorem unmade_not {B t : Nat} {mo : Option Nat} {c : Nat} {G : Slots} {w : World} {b : Nat} {mk : Value} (U : Unmade b mk w) (S : St B t mo c G w) : ¬ MS B t mo w b := by
  obtain ⟨D, R⟩ := S
  rintro ⟨_, h | h | h⟩
  · subst h
    have := R.tab.lk.symm.trans U.c0
    simp at this
  · exact ne_of_map (R.tab.own b h) U.c0 rfl
  · rcases h with h | ⟨_, h⟩
    · have := U.c0.symm.trans h
      simp at this
    · have := U.c1.symm.trans h
      simp at this

/-- The cell's own Get. -/
theorem ok_cell (B n t bt bc : Nat) (x : Int) (mo : Option Nat) (c : Nat) (G : Slots) (w0 w : World) (hn : B ≤ n) (h1 : ¬ bt = n) (h2 : ¬ bc = n) (h : Now B n t bt bc x mo c G w0 w) :
    Calls Try.prog 19 #[.pointer (some ⟨n, 0, none⟩)] w fun e w' => e = .returned (.int .i64 0) ∧ St B t mo c G w' ∧ Var bt (.pointer (some ⟨t, 0, none⟩)) w' ∧ Var bc (.int .i64 x) w' ∧ B ≤ w'.heap.size ∧ Below B w0 w' := by
  refine (get_unmade n .nilFunc w (fun v w' => v = 0 ∧ w' = atMake n w) h.cell (call_nil_answers _) ?_).mono ?_
  · rintro v w' ⟨rfl, rfl⟩
    exact keeps_atMake h.cell
  · rintro e w' ⟨v, w1, ⟨rfl, rfl⟩, rfl, rfl⟩
    have hT : Touch (fun k => k = n) w (doneBy n 0 (atMake n w)) := touch_done (S := fun k => k = n) (touch_atMake rfl) (Or.inl rfl) 0
    have hlow := h.low
    refine ⟨rfl, h.tab.other hT (fun k hk => hk ▸ unmade_not h.cell h.tab), h.vt.touch hT h1, h.vc.touch hT h2, Nat.le_trans h.low hT.size, h.below.trans (hT.below h.low (fun k hk e => by omega))⟩

/-- The law's beginning: what its first lines lay. -/
theorem now_begun (w0 w1 : World) (hb1 : Below w0.heap.size w0 w1) (w5 : World)
    (hb5 : Below (((w1.alloc (fresh .nilFunc)).alloc (.cells #[.int .i32 0, .int .u32 0, .map none] 61)).alloc (.cells #[.pointer (some ⟨w1.heap.size + 1, 0, none⟩)] 25)).heap.size (((w1.alloc (fresh .nilFunc)).alloc (.cells #[.int .i32 0, .int .u32 0, .map none] 61)).alloc (.cells #[.pointer (some ⟨w1.heap.size + 1, 0, none⟩)] 25)) w5) :
    Now w0.heap.size w1.heap.size (w1.heap.size + 1) (w1.heap.size + 2) w5.heap.size 0 none 0 (fun _ => none) w0 (w5.alloc (.cells #[.int .i64 0] 3)) := by
  have hs1 := hb1.size
  obtain ⟨w2, hw2⟩ : ∃ w2, w2 = w1.alloc (fresh .nilFunc) := ⟨_, rfl⟩
  have z2 : w2.heap.size = w1.heap.size + 1 := by rw [hw2]; simp
  have U2 : Unmade w1.heap.size .nilFunc w2 := by rw [hw2]; exact unmade_fresh _ _
  have b2 : Below w0.heap.size w0 w2 := by rw [hw2]; exact hb1.alloc (by omega) _
  rw [← hw2] at hb5
  clear hw2
  obtain ⟨w3, hw3⟩ : ∃ w3, w3 = w2.alloc (.cells #[.int .i32 0, .int .u32 0, .map none] 61) := ⟨_, rfl⟩
  have z3 : w3.heap.size = w1.heap.size + 2 := by rw [hw3]; simp [z2]
  have U3 : Unmade w1.heap.size .nilFunc w3 := by rw [hw3]; exact U2.touch ((Touch.refl Nought _).alloc _) (fun h => h)
  have S3 : St w0.heap.size (w1.heap.size + 1) none 0 (fun _ => none) w3 := by rw [hw3, ← z2]; exact st_new _ w2 (by omega)
  have b3 : Below w0.heap.size w0 w3 := by rw [hw3]; exact b2.alloc (by omega) _
  rw [← hw3] at hb5
  clear hw3 U2 b2
  obtain ⟨w4, hw4⟩ : ∃ w4, w4 = w3.alloc (.cells #[.pointer (some ⟨w1.heap.size + 1, 0, none⟩)] 25) := ⟨_, rfl⟩
  have z4 : w4.heap.size = w1.heap.size + 3 := by rw [hw4]; simp [z3]
  have U4 : Unmade w1.heap.size .nilFunc w4 := by rw [hw4]; exact U3.touch ((Touch.refl Nought _).alloc _) (fun h => h)
  have S4 : St w0.heap.size (w1.heap.size + 1) none 0 (fun _ => none) w4 := by rw [hw4]; exact S3.alloc ((Touch.refl _ _).alloc _)
  have V4 : Var (w1.heap.size + 2) (.pointer (some ⟨w1.heap.size + 1, 0, none⟩)) w4 := by
    rw [hw4, ← z3]; exact ⟨by rw [World.cell_new]; rfl, World.frozen_new _ _ _ _⟩
  have b4 : Below w0.heap.size w0 w4 := by rw [hw4]; exact b3.alloc (by omega) _
  rw [← hw4] at hb5
  clear hw4 U3 S3 b3
  have T5 : Touch (fun _ => False) w4 w5 := ⟨hb5.os, hb5.tape, hb5.output, hb5.size, fun k hk _ => hb5.block k hk⟩
  have T6 : Touch (fun _ => False) w4 (w5.alloc (.cells #[.int .i64 0] 3)) := T5.alloc _
  have h45 := hb5.size
  refine ⟨U4.touch T6 (fun h => h), S4.alloc T6, V4.touch T6 (fun h => h), ⟨by rw [World.cell_new]; rfl, World.frozen_new _ _ _ _⟩, by simp; omega, ?_⟩
  exact (b4.trans (hb5.mono (by omega))).alloc (by omega) _

set_option maxHeartbeats 1600000 in
theorem known_law (w : World) : Calls Try.prog 3 #[] w fun e w' => e = .returned (.bool true) ∧ Below w.heap.size w w' := by
  have hm := make_func
  have hn := hnot
  go_enter Try.func3, Try.ntmps3
  go_wp2_with fail
  refine (known_any _).mono ?_
  rintro e w1 ⟨rfl, hb1⟩
  have Hb1 := Lib.hid hb1
  clear hb1
  go_wp2_with fail
  refine (new_nil _).mono ?_
  rintro e w2 ⟨rfl, rfl⟩
  go_wp2_with fail
  refine (newTable_any _).mono ?_
  rintro e w3 ⟨rfl, rfl⟩
  go_wp2_with fail
  refine (known_any _).mono ?_
  rintro e w5 ⟨rfl, hb5⟩
  have N6 := Lib.hid (now_begun w w1 Hb1.out w5 hb5)
  have hsz : w1.heap.size + 2 < w5.heap.size := by have := hb5.size; simp at this; omega
  have hB1 : w.heap.size ≤ w5.heap.size := by have := Hb1.out.size; omega
  have hBn : w.heap.size ≤ w1.heap.size := Hb1.out.size
  have hcell5 : w5.cell? ⟨w1.heap.size + 2, 0, none⟩ = some (.pointer (some ⟨w1.heap.size + 1, 0, none⟩)) := by
    rw [hb5.cell (p := ⟨w1.heap.size + 2, 0, none⟩) (by simp)]
    have e : w1.heap.size + 2 = ((w1.alloc (fresh .nilFunc)).alloc (.cells #[.int .i32 0, .int .u32 0, .map none] 61)).heap.size := by simp
    rw [e, World.cell_new]; rfl
  generalize w1.heap.size = n at *
  clear hb5 Hb1
  have hcell6 := N6.out.vt.c
  go_wp2_with fail
  refine (ok_first _ n (n + 1) (n + 2) _ w _ (by omega) (by omega) hB1 N6.out).mono ?_
  rintro e w7 ⟨rfl, mo7, N7'⟩
  have N7 := Lib.hid N7'
  have h7 := N7'.vt.c
  clear N7' hcell6 N6 hcell5
  go_wp2_with fail
  refine (get_st_hit _ _ _ _ _ sB (by decide) _ _ N7.out.tab 10 (by unfold G2; rw [upd_other _ _ ba, upd_same])).mono ?_
  rintro e w8 ⟨rfl, s8, m8⟩
  have N8' := N7.out.move s8 m8
  clear s8 m8
  have N8 := Lib.hid N8'
  have h8 := N8'.vt.c
  clear N8' h7 N7
  go_wp2_with fail
  refine (count_st _ _ _ _ _ _ N8.out.tab).mono ?_
  rintro e w9 ⟨rfl, s9, m9⟩
  have N9' := N8.out.move s9 m9
  clear s9 m9
  have N9 := Lib.hid N9'
  have h9 := N9'.vt.c
  clear N9' h8 N8
  go_wp2_with fail
  refine (drop_st _ _ _ _ _ sB (by decide) _ N9.out.tab).mono ?_
  rintro e w10 ⟨rfl, s10, m10⟩
  have N10' := N9.out.move s10 m10
  have e10 : less 2 (G2 (kl sB)) = 1 := by unfold G2; rw [upd_other _ _ ba, upd_same]; rfl
  rw [e10] at N10'
  clear s10 m10 e10
  have N10 := Lib.hid N10'
  have h10 := N10'.vt.c
  clear N10' h9 N9
  go_wp2_with fail
  refine (drop_st _ _ _ _ _ sN (by decide) _ N10.out.tab).mono ?_
  rintro e w11 ⟨rfl, s11, m11⟩
  have N11' := N10.out.move s11 m11
  have e11 : less 1 (upd G2 (kl sB) none (kl sN)) = 1 := by unfold G2; rw [upd_other _ _ (by simp), upd_other _ _ (by simp), upd_other _ _ (by simp)]; rfl
  rw [e11] at N11'
  clear s11 m11 e11
  have N11 := Lib.hid N11'
  have h11 := N11'.vt.c
  clear N11' h10 N10
  go_wp2_with fail
  refine (made_st_no _ _ _ _ _ sB (by decide) _ N11.out.tab (by rw [upd_other _ _ (by simp), upd_same])).mono ?_
  rintro e w12 ⟨rfl, s12, m12⟩
  have N12' := N11.out.move s12 m12
  clear s12 m12
  have N12 := Lib.hid N12'
  have h12 := N12'.vt.c
  clear N12' h11 N11
  go_wp2_with fail
  refine (ok_new _ _ _ _ _ _ _ 1 (by decide) _ sB (by decide) _ (Or.inl ⟨_, _, _, rfl⟩) 5 w _ N12.out (by rw [upd_other _ _ (by simp), upd_same]) (fun w => call_mk 18 _ _ _ enters18 (ok_18 w))).mono ?_
  rintro e w13 ⟨rfl, mo13, N13'⟩
  have N13 := Lib.hid N13'
  have h13 := N13'.vt.c
  clear N13' h12 N12
  go_wp2_with fail
  refine (ok_new _ _ _ _ _ _ _ 2 (by decide) _ sC (by decide) _ (Or.inr rfl) 0 w _ N13.out (by unfold G2; rw [upd_other _ _ (by simp), upd_other _ _ (by simp), upd_other _ _ (by simp), upd_other _ _ (by simp), upd_other _ _ (by simp)]) (fun w => call_nil_answers w)).mono ?_
  rintro e w14 ⟨rfl, mo14, N14'⟩
  have N14 := Lib.hid N14'
  have h14 := N14'.vt.c
  clear N14' h13 N13
  go_wp2_with fail
  refine (ok_cell _ n _ _ _ _ _ _ _ w _ hBn (by omega) (by omega) N14.out).mono ?_
  rintro e w15 ⟨rfl, s15, vt15, vc15, z15, b15⟩
  have h15 := vt15.c
  have h15' := vc15.c
  have S15 := Lib.hid s15
  have Vt15 := Lib.hid vt15
  have B15 := Lib.hid b15
  have Z15 := Lib.hid z15
  clear s15 vt15 vc15 z15 b15 h14 N14
  go_wp2_with fail
  refine (count_st _ _ _ _ _ _ S15.out).mono ?_
  rintro e w16 ⟨rfl, s16, m16⟩
  have S16 := Lib.hid s16
  have Vt16 := Lib.hid (Vt15.out.moves S15.out m16 (plain_ptr _) (fun h => h))
  have Z16 := Lib.hid (Nat.le_trans Z15.out m16.touch.size)
  have B16 := Lib.hid (B15.out.trans (m16.below Z15.out (fun _ h => h.elim)))
  have h16 := Vt16.out.c
  clear s16 m16 h15 h15' S15 Vt15 B15 Z15
  go_wp2_with fail
  refine (made_st_yes _ _ _ _ _ sA (by decide) _ S16.out 11 (by unfold G2; rw [upd_other _ _ (by simp), upd_other _ _ (by simp), upd_other _ _ (by simp), upd_other _ _ (by simp), upd_same])).mono ?_
  rintro e w17 ⟨rfl, s17, m17⟩
  have S17 := Lib.hid s17
  have Vt17 := Lib.hid (Vt16.out.moves S16.out m17 (plain_ptr _) (fun h => h))
  have Z17 := Lib.hid (Nat.le_trans Z16.out m17.touch.size)
  have B17 := Lib.hid (B16.out.trans (m17.below Z16.out (fun _ h => h.elim)))
  have h17 := Vt17.out.c
  clear s17 m17 h16 S16 Vt16 B16 Z16
  go_wp2_with fail
  refine (made_st_no _ _ _ _ _ sD (by decide) _ S17.out (by unfold G2; rw [upd_other _ _ (by simp), upd_other _ _ (by simp), upd_other _ _ (by simp), upd_other _ _ (by simp), upd_other _ _ (by simp), upd_other _ _ (by simp)])).mono ?_
  rintro e w18 ⟨rfl, s18, m18⟩
  have B18 := Lib.hid (B17.out.trans (m18.below Z17.out (fun _ h => h.elim)))
  clear s18 m18 h17 S17 Vt17 B17 Z17
  go_wp2_with fail
  go_ret
  exact ⟨rfl, B18.out⟩
end Go.Proofs.Ytnhepceannajeaa
