/- lariatlaw1.OnceTables: its makes, and what one asking does. -/
import Derived.Test.YtnhepceannajeaaWant
namespace Go.Proofs.Ytnhepceannajeaa
open Go.RowKit Go.MuLone Go.Conc.Locks Go.Maps

theorem enters21 (args : Array Value) (w : World) : (callFunc 21 args).run Try.prog w = .ok (.enter 21 args) w := run_callFunc_enter Try.func21 (by kernel_rfl) rfl args w
theorem enters22 (args : Array Value) (w : World) : (callFunc 22 args).run Try.prog w = .ok (.enter 22 args) w := run_callFunc_enter Try.func22 (by kernel_rfl) rfl args w

theorem plain_string (s : ByteArray) : Plain (.string s) := ⟨fun d h => (by simp at h), fun h => (by simp at h)⟩

/-- The variables that a make reads. -/
structure TEnv (t bt bc bo bk bx : Nat) (so sk : ByteArray) (q0 q2 q3 : Int) (w : World) : Prop where
  vt : Var bt (.pointer (some ⟨t, 0, none⟩)) w
  vo : Var bo (.string so) w
  vk : Var bk (.string sk) w
  x0 : Var bx (.int .i64 q0) w
  x2 : w.cell? ⟨bx, 2, none⟩ = some (.int .i64 q2)
  x3 : w.cell? ⟨bx, 3, none⟩ = some (.int .i64 q3)
  nt : ¬ bt = bc
  no : ¬ bo = bc
  nk : ¬ bk = bc
  nx : ¬ bx = bc

theorem TEnv.touch {S : Nat → Prop} {t bt bc bo bk bx : Nat} {so sk : ByteArray} {q0 q2 q3 : Int} {w w' : World} (E : TEnv t bt bc bo bk bx so sk q0 q2 q3 w) (h : Touch S w w') (h1 : ¬ S bt) (h2 : ¬ S bo) (h3 : ¬ S bk) (h4 : ¬ S bx) : TEnv t bt bc bo bk bx so sk q0 q2 q3 w' := by
  have hl : bx < w.heap.size := by have := lt_of_cell? E.x2; simpa using this
  exact ⟨E.vt.touch h h1, E.vo.touch h h2, E.vk.touch h h3, E.x0.touch h h4, (h.cell (p := ⟨bx, 2, none⟩) hl h4).trans E.x2, (h.cell (p := ⟨bx, 3, none⟩) hl h4).trans E.x3, E.nt, E.no, E.nk, E.nx⟩
theorem TEnv.moves {B t bt bc bo bk bx : Nat} {so sk : ByteArray} {q0 q2 q3 : Int} {mo mo' : Option Nat} {c : Nat} {G : Slots} {w w' : World} (E : TEnv t bt bc bo bk bx so sk q0 q2 q3 w) (S : St B t mo c G w) (m : Moves (fun k => k = bc) B t mo w mo' w') : TEnv t bt bc bo bk bx so sk q0 q2 q3 w' :=
  E.touch m.touch (fun h => h.elim (S.not E.vt.c (plain_ptr _).1 (plain_ptr _).2) E.nt) (fun h => h.elim (S.not E.vo.c (plain_string _).1 (plain_string _).2) E.no)
    (fun h => h.elim (S.not E.vk.c (plain_string _).1 (plain_string _).2) E.nk) (fun h => h.elim (S.not E.x0.c (plain_int _).1 (plain_int _).2) E.nx)
theorem TEnv.set {t bt bc bo bk bx : Nat} {so sk : ByteArray} {q0 q2 q3 : Int} {w : World} (E : TEnv t bt bc bo bk bx so sk q0 q2 q3 w) (y : Value) : TEnv t bt bc bo bk bx so sk q0 q2 q3 (w.setCell ⟨bc, 0, none⟩ y) :=
  E.touch ((Touch.refl (fun k => k = bc) w).setCell (p := ⟨bc, 0, none⟩) (Or.inl rfl) _) E.nt E.no E.nk E.nx
theorem TEnv.drew {t bt bc bo bk bx : Nat} {so sk : ByteArray} {q0 q2 q3 : Int} {w : World} (E : TEnv t bt bc bo bk bx so sk q0 q2 q3 w) : TEnv t bt bc bo bk bx so sk q0 q2 q3 w.drew := E.touch (Touch.refl Nought w).drew (fun h => h) (fun h => h) (fun h => h) (fun h => h)

/-- The inner make. -/
theorem make22 (t bt bc bo bk bx : Nat) (so sk : ByteArray) (q0 q2 q3 x : Int) (hx : 0 ≤ x ∧ x < 1000) (h3 : -9223372036854775808 ≤ q3 ∧ q3 ≤ 9223372036854775807) (w : World) (E : TEnv t bt bc bo bk bx so sk q0 q2 q3 w) (Vc : Var bc (.int .i64 x) w) :
    Calls Try.prog 22 #[.pointer (some ⟨bc, 0, none⟩), .pointer (some ⟨bx, 0, none⟩)] w (Answers fun v w' => v = q3.tdiv 3 ∧ w' = w.setCell ⟨bc, 0, none⟩ (.int .i64 (x + 1))) := by
  obtain ⟨hx0, hx1⟩ := hx
  obtain ⟨h30, h31⟩ := h3
  have hc := Vc.c
  have hf := Vc.f
  have h1 := (E.set (.int .i64 (x + 1))).x3
  clear E Vc
  go_enter Try.func22, Try.ntmps22
  go_wp2
  go_ret
  exact ⟨_, rfl, rfl, rfl⟩

theorem make21_eq (t bt bc bo bk bx : Nat) (s : ByteArray) (q0 q2 q3 x : Int) (hx : 0 ≤ x ∧ x < 1000) (w : World) (E : TEnv t bt bc bo bk bx s s q0 q2 q3 w) (Vc : Var bc (.int .i64 x) w) :
    Calls Try.prog 21 #[.pointer (some ⟨bc, 0, none⟩), .pointer (some ⟨bo, 0, none⟩), .pointer (some ⟨bk, 0, none⟩), .pointer (some ⟨bx, 0, none⟩), .pointer (some ⟨bt, 0, none⟩)] w (Answers fun v w' => v = q2 ∧ w' = w.setCell ⟨bc, 0, none⟩ (.int .i64 (x + 1))) := by
  obtain ⟨hx0, hx1⟩ := hx
  have hc := Vc.c
  have hf := Vc.f
  have E1 := E.set (.int .i64 (x + 1))
  have h1 := E1.x2
  have h2 := E1.vo.c
  have h3 := E1.vk.c
  clear E Vc E1
  go_enter Try.func21, Try.ntmps21
  go_wp2
  go_ret
  exact ⟨_, rfl, rfl, rfl⟩
theorem tdiv2_in {q : Int} (h : -9223372036854775808 ≤ q ∧ q ≤ 9223372036854775807) : -9223372036854775808 ≤ q.tdiv 2 ∧ q.tdiv 2 ≤ 9223372036854775807 := by
  rcases Int.le_total 0 q with h0 | h0
  · rw [Int.tdiv_eq_ediv_of_nonneg h0]
    omega
  · have e : q.tdiv 2 = -((-q) / 2) := by rw [← Int.tdiv_eq_ediv_of_nonneg (show 0 ≤ -q by omega), Int.neg_tdiv, Int.neg_neg]
    rw [e]
    omega
theorem tdiv3_in {q : Int} (h : -9223372036854775808 ≤ q ∧ q ≤ 9223372036854775807) : -9223372036854775808 ≤ q.tdiv 3 ∧ q.tdiv 3 ≤ 9223372036854775807 := by
  rcases Int.le_total 0 q with h0 | h0
  · rw [Int.tdiv_eq_ediv_of_nonneg h0]
    omega
  · have e : q.tdiv 3 = -((-q) / 3) := by rw [← Int.tdiv_eq_ediv_of_nonneg (show 0 ≤ -q by omega), Int.neg_tdiv, Int.neg_neg]
    rw [e]
    omega

theorem make21_ne (t bt bc bo bk bx : Nat) (so sk : ByteArray) (hs : (so.toList == sk.toList) = false) (q0 q2 q3 x : Int) (hx : 0 ≤ x ∧ x < 1000) (hq : IntKind.i64.wrap (q2.tdiv 2) = q2.tdiv 2) (w : World) (E : TEnv t bt bc bo bk bx so sk q0 q2 q3 w) (Vc : Var bc (.int .i64 x) w)
    (R : Int → World → Prop) (hget : Calls Try.prog 11 #[.pointer (some ⟨t, 0, none⟩), .string so, .func (.func 22) #[] #[.pointer (some ⟨bc, 0, none⟩), .pointer (some ⟨bx, 0, none⟩)]] (w.setCell ⟨bc, 0, none⟩ (.int .i64 (x + 1))).drew (Answers R))
    (hR : ∀ u w', R u w' → TEnv t bt bc bo bk bx so sk q0 q2 q3 w') :
    Calls Try.prog 21 #[.pointer (some ⟨bc, 0, none⟩), .pointer (some ⟨bo, 0, none⟩), .pointer (some ⟨bk, 0, none⟩), .pointer (some ⟨bx, 0, none⟩), .pointer (some ⟨bt, 0, none⟩)] w (Answers fun v w' => ∃ u, v = IntKind.i64.wrap (q2.tdiv 2 + u) ∧ R u w') := by
  obtain ⟨hx0, hx1⟩ := hx
  have hc := Vc.c
  have hf := Vc.f
  have E1 := E.set (.int .i64 (x + 1))
  have h1 := E1.x2
  have h2 := E1.vo.c
  have h3 := E1.vk.c
  have h4 := E1.vt.c
  have HG := Lib.hid hget
  have HR := Lib.hid hR
  have hm := make_func
  clear E Vc E1 hget hR
  go_enter Try.func21, Try.ntmps21
  go_wp2_with fail
  generalize w.setCell ⟨bc, 0, none⟩ (.int .i64 (x + 1)) = W at *
  go_region_held3 (fun w' => w'.cell? ⟨bx, 2, none⟩ = some (.int .i64 q2) ∧ w'.cell? ⟨bo, 0, none⟩ = some (.string so) ∧ w'.cell? ⟨bt, 0, none⟩ = some (.pointer (some ⟨t, 0, none⟩))) (first | exact ⟨h1, h2, h4⟩ | exact ⟨g1, g2, g4⟩)
    (first | (go_at_call 11; refine HG.out.mono ?_; rintro e w2 ⟨u, rfl, hr⟩; have g1 := (HR.out u w2 hr).x2; have g2 := (HR.out u w2 hr).vo.c; have g4 := (HR.out u w2 hr).vt.c; have Hr := Lib.hid hr; clear hr))
  clear h1 h2 h3 h4 g1 g2 g4
  go_wp2_with fail
  go_ret
  exact ⟨_, rfl, u, rfl, Hr.out⟩

/-- A number that fits. -/
def Fits (q : Int) : Prop := -9223372036854775808 ≤ q ∧ q ≤ 9223372036854775807
theorem Fits.wf {q : Int} (h : Fits q) : (Lit.int .i64 q).wf = true := WalkArith.wf_i64 h
theorem Fits.div2 {q : Int} (h : Fits q) : Fits (q.tdiv 2) := tdiv2_in h
theorem Fits.div3 {q : Int} (h : Fits q) : Fits (q.tdiv 3) := tdiv3_in h
theorem fits_wrap (q : Int) : Fits (IntKind.i64.wrap q) := by unfold Fits; rw [IntKind.wrap_i64]; omega

/-- What one asking for key k, with the other key o, does: the value that is told, the slots, how many they are, how many makes were called. -/
def Step (G : Slots) (c : Nat) (k o : Lit) (q2 q3 : Int) (v : Int) (G' : Slots) (c' d : Nat) : Prop :=
  (G k = some (.inr v) ∧ G' = G ∧ c' = c ∧ d = 0) ∨
  (G k = none ∧ o = k ∧ v = q2 ∧ G' = upd G k (some (.inr v)) ∧ c' = c + 1 ∧ d = 1) ∨
  (G k = none ∧ ¬ o = k ∧ (∃ u, G o = some (.inr u) ∧ v = IntKind.i64.wrap (q2.tdiv 2 + u)) ∧ G' = upd G k (some (.inr v)) ∧ c' = c + 1 ∧ d = 1) ∨
  (G k = none ∧ ¬ o = k ∧ G o = none ∧ v = IntKind.i64.wrap (q2.tdiv 2 + q3.tdiv 3) ∧ G' = upd (upd G o (some (.inr (q3.tdiv 3)))) k (some (.inr v)) ∧ c' = c + 2 ∧ d = 2)

def Told (B t bc : Nat) (mo : Option Nat) (c : Nat) (G : Slots) (k o : Lit) (q2 q3 x : Int) (w : World) (e : Ending) (w' : World) : Prop :=
  ∃ v G' c' d mo', e = .returned (.int .i64 v) ∧ Step G c k o q2 q3 v G' c' d ∧ St B t mo' c' G' w' ∧ Moves (fun i => i = bc) B t mo w mo' w' ∧ Var bc (.int .i64 (x + (d : Int))) w'

theorem upd_comm (G : Slots) {k k' : Lit} (x y : Option (Nat ⊕ Int)) (h : ¬ k = k') : upd (upd G k x) k' y = upd (upd G k' y) k x := by
  funext l
  by_cases e : l = k
  · subst e
    rw [upd_other _ _ h, upd_same, upd_same]
  · by_cases e' : l = k'
    · subst e'
      rw [upd_same, upd_other _ _ e, upd_same]
    · rw [upd_other _ _ e', upd_other _ _ e, upd_other _ _ e, upd_other _ _ e']

theorem St.drew' {B t : Nat} {mo : Option Nat} {c : Nat} {G : Slots} {w : World} (h : St B t mo c G w) : St B t mo c G w.drew := h.alloc (Touch.refl _ w).drew
theorem moves_drew {X : Nat → Prop} {B t : Nat} {mo mo' : Option Nat} {w w' : World} (m : Moves X B t mo w.drew mo' w') : Moves X B t mo w mo' w' :=
  Moves.trans ⟨(Touch.refl _ w).drew, Or.inl rfl⟩ m

/-- One asking, whatever the slots. -/
theorem tables_get (B t bt bc bo bk bx : Nat) (so sk : ByteArray) (hso : so.size ≤ 1000) (hsk : sk.size ≤ 1000) (q0 q2 q3 x : Int) (hq2 : Fits q2) (hq3 : Fits q3) (hx : 0 ≤ x ∧ x < 900) (mo : Option Nat) (c : Nat) (hc : c < 900) (G : Slots) (hG : ∀ k b, ¬ G k = some (.inl b)) (w : World)
    (S : St B t mo c G w) (E : TEnv t bt bc bo bk bx so sk q0 q2 q3 w) (Vc : Var bc (.int .i64 x) w) :
    Calls Try.prog 11 #[.pointer (some ⟨t, 0, none⟩), .string sk, .func (.func 21) #[] #[.pointer (some ⟨bc, 0, none⟩), .pointer (some ⟨bo, 0, none⟩), .pointer (some ⟨bk, 0, none⟩), .pointer (some ⟨bx, 0, none⟩), .pointer (some ⟨bt, 0, none⟩)]] w
      (Told B t bc mo c G (kl sk) (kl so) q2 q3 x w) := by
  obtain ⟨hx0, hx1⟩ := hx
  cases hg : G (kl sk) with
  | some y =>
    cases y with
    | inl b => exact absurd hg (hG _ b)
    | inr v =>
      refine (get_st_hit B t mo c G sk hsk _ w S v hg).mono ?_
      rintro e w' ⟨rfl, s1, m1⟩
      exact ⟨v, G, c, 0, mo, rfl, Or.inl ⟨hg, rfl, rfl, rfl⟩, s1, m1.any, by simpa using Vc.moves S m1 (plain_int _) (fun h => h)⟩
  | none =>
    by_cases hks : kl so = kl sk
    · have e : so = sk := by
        have h1 : so.data.toList = sk.data.toList := by simpa using hks
        exact ByteArray.ext (Array.ext' h1)
      subst e
      refine (get_st_new (fun i => i = bc) B t mo c G so hsk (by omega) _ (Or.inl ⟨_, _, _, rfl⟩) w S hg (fun b mo1 w1 v mo2 c2 G2 w2 => v = q2 ∧ mo2 = mo1 ∧ c2 = c + 1 ∧ G2 = upd G (kl so) (some (.inl b)) ∧ Var bc (.int .i64 (x + 1)) w2) ?_).mono ?_
      · intro b mo1 w1 s1 m1
        have V1 := Vc.moves S m1 (plain_int _) (fun h => h)
        refine call_mk 21 _ _ _ enters21 (answers_mono (make21_eq t bt bc bo bk bx so q0 q2 q3 x ⟨hx0, by omega⟩ w1 (E.moves S m1.any) V1) ?_)
        rintro v w2 ⟨rfl, rfl⟩
        exact ⟨mo1, _, _, s1.set V1 (plain_int _) _, upd_same _ _ _, moves_set (X := fun i => i = bc) rfl _, rfl, rfl, rfl, rfl, V1.set _⟩
      · rintro e w' ⟨b, mo1, w1, v, mo2, c2, G2, w2, rfl, s1, m1, m2, ⟨rfl, rfl, rfl, rfl, V2⟩, s2, s3, m3⟩
        rw [upd_upd] at s3
        exact ⟨v, _, _, 1, mo2, rfl, Or.inr (Or.inl ⟨hg, rfl, rfl, rfl, rfl, rfl⟩), s3, (m1.any.trans m2).trans m3.any, V2.moves s2 m3 (plain_int _) (fun h => h)⟩
    · have hne : (so.toList == sk.toList) = false := by
        rw [beq_eq_false_iff_ne]
        intro h
        apply hks
        show Lit.string so.data.toList = Lit.string sk.data.toList
        rw [← ByteArray.toList_eq, ← ByteArray.toList_eq, h]
      have hq := IntWalk.i64_in _ hq2.div2
      cases hgo : G (kl so) with
      | some y =>
        cases y with
        | inl b => exact absurd hgo (hG _ b)
        | inr u =>
          refine (get_st_new (fun i => i = bc) B t mo c G sk hsk (by omega) _ (Or.inl ⟨_, _, _, rfl⟩) w S hg (fun b mo1 w1 v mo2 c2 G2 w2 => v = IntKind.i64.wrap (q2.tdiv 2 + u) ∧ mo2 = mo1 ∧ c2 = c + 1 ∧ G2 = upd G (kl sk) (some (.inl b)) ∧ Var bc (.int .i64 (x + 1)) w2) ?_).mono ?_
          · intro b mo1 w1 s1 m1
            have V1 := Vc.moves S m1 (plain_int _) (fun h => h)
            have E1 := E.moves S m1.any
            have S1' := (s1.set V1 (plain_int _) (.int .i64 (x + 1))).drew'
            have V1' := (V1.set (.int .i64 (x + 1))).drew
            refine call_mk 21 _ _ _ enters21 (answers_mono (make21_ne t bt bc bo bk bx so sk hne q0 q2 q3 x ⟨hx0, by omega⟩ hq w1 E1 V1
              (fun u' w' => u' = u ∧ St B t mo1 (c + 1) (upd G (kl sk) (some (.inl b))) w' ∧ Moves Nought B t mo1 (w1.setCell ⟨bc, 0, none⟩ (.int .i64 (x + 1))).drew mo1 w')
              ((get_st_hit B t mo1 (c + 1) _ so hso _ _ S1' u (by rw [upd_other _ _ hks]; exact hgo)).mono (fun e w' ⟨he, s, m⟩ => ⟨u, he, rfl, s, m⟩))
              (fun u' w' ⟨_, s, m⟩ => (E1.set _).drew.moves S1' m.any)) ?_)
            rintro v w2 ⟨u', rfl, rfl, s2, m2⟩
            exact ⟨mo1, _, _, s2, upd_same _ _ _, (moves_set (X := fun i => i = bc) rfl _).trans (moves_drew m2.any), rfl, rfl, rfl, rfl, V1'.moves S1' m2 (plain_int _) (fun h => h)⟩
          · rintro e w' ⟨b, mo1, w1, v, mo2, c2, G2, w2, rfl, s1, m1, m2, ⟨rfl, rfl, rfl, rfl, V2⟩, s2, s3, m3⟩
            rw [upd_upd] at s3
            exact ⟨_, _, _, 1, mo2, rfl, Or.inr (Or.inr (Or.inl ⟨hg, hks, ⟨u, hgo, rfl⟩, rfl, rfl, rfl⟩)), s3, (m1.any.trans m2).trans m3.any, V2.moves s2 m3 (plain_int _) (fun h => h)⟩
      | none =>
        refine (get_st_new (fun i => i = bc) B t mo c G sk hsk (by omega) _ (Or.inl ⟨_, _, _, rfl⟩) w S hg (fun b mo1 w1 v mo2 c2 G2 w2 => v = IntKind.i64.wrap (q2.tdiv 2 + q3.tdiv 3) ∧ c2 = c + 2 ∧ G2 = upd (upd G (kl sk) (some (.inl b))) (kl so) (some (.inr (q3.tdiv 3))) ∧ Var bc (.int .i64 (x + 2)) w2) ?_).mono ?_
        · intro b mo1 w1 s1 m1
          have V1 := Vc.moves S m1 (plain_int _) (fun h => h)
          have E1 := E.moves S m1.any
          have S1' := (s1.set V1 (plain_int _) (.int .i64 (x + 1))).drew'
          have V1' := (V1.set (.int .i64 (x + 1))).drew
          have E1' := (E1.set (.int .i64 (x + 1))).drew
          refine call_mk 21 _ _ _ enters21 (answers_mono (make21_ne t bt bc bo bk bx so sk hne q0 q2 q3 x ⟨hx0, by omega⟩ hq w1 E1 V1
            (fun u' w' => u' = q3.tdiv 3 ∧ ∃ mo2, St B t mo2 (c + 2) (upd (upd G (kl sk) (some (.inl b))) (kl so) (some (.inr (q3.tdiv 3)))) w' ∧ Moves (fun i => i = bc) B t mo1 (w1.setCell ⟨bc, 0, none⟩ (.int .i64 (x + 1))).drew mo2 w' ∧ Var bc (.int .i64 (x + 2)) w')
            ?_ (fun u' w' ⟨_, mo2, s, m, _⟩ => E1'.moves S1' m)) ?_)
          · refine (get_st_new (fun i => i = bc) B t mo1 (c + 1) _ so hso (by omega) _ (Or.inl ⟨_, _, _, rfl⟩) _ S1' (by rw [upd_other _ _ hks]; exact hgo)
              (fun b' mo3 w3 v mo4 c4 G4 w4 => v = q3.tdiv 3 ∧ mo4 = mo3 ∧ c4 = c + 2 ∧ G4 = upd (upd G (kl sk) (some (.inl b))) (kl so) (some (.inl b')) ∧ Var bc (.int .i64 (x + 2)) w4) ?_).mono ?_
            · intro b' mo3 w3 s3 m3
              have V3 := V1'.moves S1' m3 (plain_int _) (fun h => h)
              refine call_mk 22 _ _ _ enters22 (answers_mono (make22 t bt bc bo bk bx so sk q0 q2 q3 (x + 1) ⟨by omega, by omega⟩ hq3 w3 (E1'.moves S1' m3.any) V3) ?_)
              rintro v w4 ⟨rfl, rfl⟩
              have e : x + 1 + 1 = x + 2 := by omega
              exact ⟨mo3, _, _, s3.set V3 (plain_int _) _, upd_same _ _ _, moves_set (X := fun i => i = bc) rfl _, rfl, rfl, rfl, rfl, by rw [e]; exact V3.set _⟩
            · rintro e w' ⟨b', mo3, w3, v, mo4, c4, G4, w4, rfl, s3, m3, m4, ⟨rfl, rfl, rfl, rfl, V4⟩, s4, s5, m5⟩
              rw [upd_upd] at s5
              exact ⟨_, rfl, rfl, mo4, s5, (m3.any.trans m4).trans m5.any, V4.moves s4 m5 (plain_int _) (fun h => h)⟩
          · rintro v w2 ⟨u', rfl, rfl, mo2, s2, m2, V2⟩
            exact ⟨mo2, _, _, s2, by rw [upd_other _ _ (fun h => hks h.symm), upd_same], (moves_set (X := fun i => i = bc) rfl _).trans (moves_drew m2), rfl, rfl, rfl, V2⟩
        · rintro e w' ⟨b, mo1, w1, v, mo2, c2, G2, w2, rfl, s1, m1, m2, ⟨rfl, rfl, rfl, V2⟩, s2, s3, m3⟩
          rw [upd_comm _ _ _ (fun h => hks h.symm), upd_upd] at s3
          exact ⟨_, _, _, 2, mo2, rfl, Or.inr (Or.inr (Or.inr ⟨hg, hks, hgo, rfl, rfl, rfl, rfl⟩)), s3, (m1.any.trans m2).trans m3.any, V2.moves s2 m3 (plain_int _) (fun h => h)⟩
end Go.Proofs.Ytnhepceannajeaa
