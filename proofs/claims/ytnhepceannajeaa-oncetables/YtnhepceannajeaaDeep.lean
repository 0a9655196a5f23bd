/- The walk of lariatlaw1.OnceDeep: the function that asks, and its makes. -/
import Derived.Test.YtnhepceannajeaaOK
namespace Go.Proofs.Ytnhepceannajeaa
open Go.RowKit Go.MuLone Go.Conc.Locks Go.Maps

/-- The one-letter text of the j-th letter. -/
def letter (j : Nat) : ByteArray := ⟨#[UInt8.ofNat (97 + j)]⟩
theorem letter_size (j : Nat) : (letter j).size ≤ 1000 := by show 1 ≤ 1000; omega

/-- 'string([]byte{..})' of one letter. -/
theorem conv_letter (w : World) (j : Nat) (hj : j < 100) (b : Nat) (hc : w.cell? ⟨b, 0, none⟩ = some (.int .u8 (97 + j))) :
    (convert 36 9 (.slice (some ⟨b, 0, none⟩) 1 1)).run Try.prog w = .ok (.string (letter j)) w :=
  run_convert_bytes_back (P := Try.prog) w 36 9 5 ⟨b, 0, none⟩ 1 [UInt8.ofNat (97 + j)] Try.underlying36 Try.underlying5 Try.underlying9 (fun i hi => by
    have h0 : i = 0 := by simp at hi; omega
    subst h0
    have e : ((UInt8.ofNat (97 + j)).toNat : Int) = 97 + j := by simp [UInt8.toNat_ofNat']; omega
    simp only [List.getElem_cons_zero, e]
    exact hc)

/-- The j-th letter as a key. -/
abbrev lk (j : Nat) : Lit := kl (letter j)
theorem lk_inj {i j : Nat} (hi : i < 100) (hj : j < 100) (h : lk i = lk j) : i = j := by
  simp [letter] at h
  have := congrArg UInt8.toNat h
  simp [UInt8.toNat_ofNat'] at this
  omega

open Classical in
/-- G, with the keys from k to N - 1 made, each by the one behind it. -/
noncomputable def fillG (G : Slots) (k N : Nat) : Slots := fun l => if h : ∃ j, k ≤ j ∧ j < N ∧ l = lk j then some (.inr ((N : Int) - (Classical.choose h : Nat))) else G l

theorem fillG_in (G : Slots) {k N j : Nat} (hN : N ≤ 25) (h1 : k ≤ j) (h2 : j < N) : fillG G k N (lk j) = some (.inr ((N : Int) - j)) := by
  have h : ∃ i, k ≤ i ∧ i < N ∧ lk j = lk i := ⟨j, h1, h2, rfl⟩
  have e : Classical.choose h = j := by
    obtain ⟨a, b, c⟩ := Classical.choose_spec h
    exact (lk_inj (by omega) (by omega) c).symm
  unfold fillG
  rw [dif_pos h, e]
theorem fillG_out (G : Slots) {k N : Nat} {l : Lit} (h : ∀ j, k ≤ j → j < N → ¬ l = lk j) : fillG G k N l = G l := by
  unfold fillG
  rw [dif_neg]
  rintro ⟨j, h1, h2, e⟩
  exact h j h1 h2 e

theorem fillG_last (G : Slots) {k N : Nat} (hN : N ≤ 25) (hk : k + 1 = N) : upd G (lk k) (some (.inr 1)) = fillG G k N := by
  funext l
  by_cases e : l = lk k
  · subst e
    rw [upd_same, fillG_in G hN (Nat.le_refl _) (by omega)]
    have : (N : Int) - k = 1 := by omega
    rw [this]
  · rw [upd_other _ _ e, fillG_out G (fun j h1 h2 e' => e (by rw [e', show j = k by omega]))]

theorem fillG_step (G : Slots) {k N b : Nat} (hN : N ≤ 25) (hk : k < N) : upd (fillG (upd G (lk k) (some (.inl b))) (k + 1) N) (lk k) (some (.inr ((N : Int) - k))) = fillG G k N := by
  funext l
  by_cases e : l = lk k
  · subst e
    rw [upd_same, fillG_in G hN (Nat.le_refl _) hk]
  · rw [upd_other _ _ e]
    by_cases h : ∃ j, k + 1 ≤ j ∧ j < N ∧ l = lk j
    · obtain ⟨j, h1, h2, rfl⟩ := h
      rw [fillG_in _ hN h1 h2, fillG_in _ hN (by omega) h2]
    · have h' : ∀ j, k + 1 ≤ j → j < N → ¬ l = lk j := fun j h1 h2 e' => h ⟨j, h1, h2, e'⟩
      rw [fillG_out _ h', upd_other _ _ e, fillG_out _ (fun j h1 h2 e' => by
        by_cases hjk : j = k
        · exact e (by rw [e', hjk])
        · exact h' j (by omega) h2 e')]

/-- The function that asks, as a value. -/
abbrev asker (bt bc bn bg : Nat) : Value := .func (.func 25) #[] #[.pointer (some ⟨bt, 0, none⟩), .pointer (some ⟨bc, 0, none⟩), .pointer (some ⟨bn, 0, none⟩), .pointer (some ⟨bg, 0, none⟩)]
theorem plain_func (f : Fn) (a c : Array Value) : Plain (.func f a c) := ⟨fun d h => (by simp at h), fun h => (by simp at h)⟩

structure Env (t bt bc bn bg N : Nat) (w : World) : Prop where
  vt : Var bt (.pointer (some ⟨t, 0, none⟩)) w
  vn : Var bn (.int .i64 N) w
  vg : Var bg (asker bt bc bn bg) w
  nt : ¬ bt = bc
  nn : ¬ bn = bc
  ng : ¬ bg = bc

theorem Env.moves {B t bt bc bn bg N : Nat} {mo mo' : Option Nat} {c : Nat} {G : Slots} {w w' : World} (E : Env t bt bc bn bg N w) (S : St B t mo c G w) (m : Moves (fun k => k = bc) B t mo w mo' w') : Env t bt bc bn bg N w' :=
  ⟨E.vt.moves S m (plain_ptr _) E.nt, E.vn.moves S m (plain_int _) E.nn, E.vg.moves S m (plain_func _ _ _) E.ng, E.nt, E.nn, E.ng⟩
theorem Env.touch {S : Nat → Prop} {t bt bc bn bg N : Nat} {w w' : World} (E : Env t bt bc bn bg N w) (m : Touch S w w') (h : ∀ k, S k → k = bc) : Env t bt bc bn bg N w' :=
  ⟨E.vt.touch m (fun h' => E.nt (h _ h')), E.vn.touch m (fun h' => E.nn (h _ h')), E.vg.touch m (fun h' => E.ng (h _ h')), E.nt, E.nn, E.ng⟩

theorem enters25 (args : Array Value) (w : World) : (callFunc 25 args).run Try.prog w = .ok (.enter 25 args) w := run_callFunc_enter Try.func25 (by kernel_rfl) rfl args w
theorem enters26 (args : Array Value) (w : World) : (callFunc 26 args).run Try.prog w = .ok (.enter 26 args) w := run_callFunc_enter Try.func26 (by kernel_rfl) rfl args w

/-- What asking for the k-th key does where none from k on is made. -/
def Asked (B t bc : Nat) (mo : Option Nat) (c : Nat) (G : Slots) (x : Int) (k N : Nat) (w : World) (v : Int) (w' : World) : Prop :=
  v = (N : Int) - k ∧ ∃ mo', St B t mo' (c + (N - k)) (fillG G k N) w' ∧ Moves (fun i => i = bc) B t mo w mo' w' ∧ Var bc (.int .i64 (x + ((N : Int) - k))) w'

/-- The make of the last key. -/
theorem make_last (t bt bc bn bg N bk k : Nat) (hN : N ≤ 25) (hk : k + 1 = N) (x : Int) (hx : 0 ≤ x ∧ x < 1000) (w : World) (E : Env t bt bc bn bg N w) (Vc : Var bc (.int .i64 x) w) (Vk : Var bk (.int .i64 k) w) (hne : ¬ bk = bc) :
    Calls Try.prog 26 #[.pointer (some ⟨bc, 0, none⟩), .pointer (some ⟨bk, 0, none⟩), .pointer (some ⟨bn, 0, none⟩), .pointer (some ⟨bg, 0, none⟩)] w
      (Answers fun v w' => v = 1 ∧ w' = w.setCell ⟨bc, 0, none⟩ (.int .i64 (x + 1))) := by
  obtain ⟨hx0, hx1⟩ := hx
  have hc := Vc.c
  have hf := Vc.f
  have hk1 := (Vk.setOther hne (.int .i64 (x + 1))).c
  have hn1 := (E.vn.setOther E.nn (.int .i64 (x + 1))).c
  have hq : (((k : Int) + 1) == (N : Int)) = true := by simp; omega
  clear E Vc Vk
  go_enter Try.func26, Try.ntmps26
  go_wp2_with fail
  go_ret
  exact ⟨1, rfl, rfl, rfl⟩

/-- The make of a key that is not the last: it asks for the next one. -/
theorem make_more (B t bt bc bn bg N bk k : Nat) (hN : N ≤ 25) (hk : k + 1 < N) (mo : Option Nat) (c : Nat) (G : Slots) (x : Int) (hx : 0 ≤ x ∧ x < 1000) (w : World) (S : St B t mo c G w) (E : Env t bt bc bn bg N w) (Vc : Var bc (.int .i64 x) w) (Vk : Var bk (.int .i64 k) w) (hne : ¬ bk = bc)
    (ih : ∀ w1, St B t mo c G w1 → Env t bt bc bn bg N w1 → Var bc (.int .i64 (x + 1)) w1 →
      Calls Try.prog 25 #[.int .i64 ((k : Int) + 1), .pointer (some ⟨bt, 0, none⟩), .pointer (some ⟨bc, 0, none⟩), .pointer (some ⟨bn, 0, none⟩), .pointer (some ⟨bg, 0, none⟩)] w1 (Answers (Asked B t bc mo c G (x + 1) (k + 1) N w1))) :
    Calls Try.prog 26 #[.pointer (some ⟨bc, 0, none⟩), .pointer (some ⟨bk, 0, none⟩), .pointer (some ⟨bn, 0, none⟩), .pointer (some ⟨bg, 0, none⟩)] w
      (Answers fun v w' => v = (N : Int) - k ∧ ∃ mo', St B t mo' (c + (N - (k + 1))) (fillG G (k + 1) N) w' ∧ Moves (fun i => i = bc) B t mo w mo' w' ∧ Var bc (.int .i64 (x + ((N : Int) - k))) w') := by
  obtain ⟨hx0, hx1⟩ := hx
  have hc := Vc.c
  have hf := Vc.f
  have hk1 := (Vk.setOther hne (.int .i64 (x + 1))).c
  have hn1 := (E.vn.setOther E.nn (.int .i64 (x + 1))).c
  have hg1 := (E.vg.setOther E.ng (.int .i64 (x + 1))).c
  have hq : (((k : Int) + 1) == (N : Int)) = false := by simp; omega
  have C := Lib.hid (ih _ (S.set Vc (plain_int _) _) (E.touch (S := fun i => i = bc) ((Touch.refl (fun i => i = bc) w).setCell (p := ⟨bc, 0, none⟩) (Or.inl rfl) _) (fun _ h => h)) (Vc.set (.int .i64 (x + 1))))
  have h25 := enters25
  clear E Vc Vk S ih
  go_enter Try.func26, Try.ntmps26
  go_wp2_with fail
  refine C.out.mono ?_
  rintro e w2 ⟨v, rfl, rfl, mo2, s2, m2, V2⟩
  have HF : Hid (St B t mo2 (c + (N - (k + 1))) (fillG G (k + 1) N) w2 ∧ Moves (fun i => i = bc) B t mo w mo2 w2 ∧ Var bc (.int .i64 (x + ((N : Int) - k))) w2) := by
    refine ⟨s2, (moves_set (X := fun i => i = bc) rfl _).trans m2, ?_⟩
    have e : x + 1 + ((N : Int) - ((k + 1 : Nat) : Int)) = x + ((N : Int) - k) := by omega
    rw [e] at V2
    exact V2
  clear s2 m2 V2
  have hle : 0 ≤ (N : Int) - ((k + 1 : Nat) : Int) := by omega
  have hle2 : (N : Int) - ((k + 1 : Nat) : Int) ≤ 25 := by omega
  generalize hv : (N : Int) - ((k + 1 : Nat) : Int) = v at *
  have Hv := Lib.hid hv
  clear hv
  go_wp2_with fail
  go_ret
  refine ⟨_, rfl, ?_, mo2, HF.out⟩
  have := Hv.out
  omega

/-- What a make leaves, as the asker needs it. -/
def Left (B t bc : Nat) (mo1 : Option Nat) (c : Nat) (G : Slots) (x : Int) (k N b : Nat) (w1 : World) (v : Int) (w2 : World) : Prop :=
  v = (N : Int) - k ∧ ∃ mo2 G2, St B t mo2 (c + (N - k)) G2 w2 ∧ G2 (lk k) = some (.inl b) ∧ upd G2 (lk k) (some (.inr ((N : Int) - k))) = fillG G k N ∧ Moves (fun i => i = bc) B t mo1 w1 mo2 w2 ∧ Var bc (.int .i64 (x + ((N : Int) - k))) w2

set_option maxHeartbeats 800000 in
theorem ask_step (B t bt bc bn bg N k : Nat) (hN : N ≤ 25) (hk : k < N) (mo : Option Nat) (c : Nat) (hc : c < 500) (G : Slots) (x : Int) (w : World) (S : St B t mo c G w) (E : Env t bt bc bn bg N w) (Vc : Var bc (.int .i64 x) w) (hg : G (lk k) = none)
    (hmk : ∀ b mo1 w1 bk, ¬ bk = bc → St B t mo1 (c + 1) (upd G (lk k) (some (.inl b))) w1 → Env t bt bc bn bg N w1 → Var bc (.int .i64 x) w1 → Var bk (.int .i64 k) w1 →
      Calls Try.prog 26 #[.pointer (some ⟨bc, 0, none⟩), .pointer (some ⟨bk, 0, none⟩), .pointer (some ⟨bn, 0, none⟩), .pointer (some ⟨bg, 0, none⟩)] w1 (Answers (Left B t bc mo1 c G x k N b w1))) :
    Calls Try.prog 25 #[.int .i64 k, .pointer (some ⟨bt, 0, none⟩), .pointer (some ⟨bc, 0, none⟩), .pointer (some ⟨bn, 0, none⟩), .pointer (some ⟨bg, 0, none⟩)] w (Answers (Asked B t bc mo c G x k N w)) := by
  obtain ⟨W, hW⟩ : ∃ W, W = (w.alloc (.cells #[.int .i64 k] 3)).alloc (.cells #[.int .u8 (97 + k)] 5) := ⟨_, rfl⟩
  have tW : Touch (fun _ => False) w W := by rw [hW]; exact ((Touch.refl _ _).alloc _).alloc _
  have SW := Lib.hid (S.alloc tW)
  have EW := Lib.hid (E.touch tW (fun _ h => h.elim))
  have VcW := Lib.hid (Vc.touch tW (fun h => h))
  have hbk : ¬ w.heap.size = bc := fun e => by have := lt_of_cell? Vc.c; simp at this; omega
  have VkW : Hid (Var w.heap.size (.int .i64 k) W) := by
    rw [hW]
    have V0 : Var w.heap.size (.int .i64 k) (w.alloc (.cells #[.int .i64 k] 3)) := ⟨by rw [World.cell_new]; rfl, World.frozen_new _ _ _ _⟩
    exact V0.touch ((Touch.refl Nought _).alloc _) (fun h => h)
  have hcv : (convert 36 9 (.slice (some ⟨w.heap.size + 1, 0, none⟩) 1 1)).run Try.prog W = .ok (.string (letter k)) W := by
    refine conv_letter W k (by omega) _ ?_
    rw [hW]
    simp
  have hct : (w.alloc (.cells #[.int .i64 k] 3)).cell? ⟨bt, 0, none⟩ = some (.pointer (some ⟨t, 0, none⟩)) := by
    rw [World.cell?_alloc_past _ _ _ (lt_of_cell? E.vt.c)]; exact E.vt.c
  have TW := Lib.hid tW
  have HM := Lib.hid hmk
  have hm := make_func
  rw [hW] at hcv
  have HW := Lib.hid hW
  clear S E Vc tW hmk hW
  go_enter Try.func25, Try.ntmps25
  go_wp2_with fail
  rw [← HW.out]
  refine (get_st_new (fun i => i = bc) B t mo c G (letter k) (letter_size k) (by omega) _ (Or.inl ⟨_, _, _, rfl⟩) _ SW.out hg
    (fun b mo1 w1 v mo2 c2 G2 w2 => v = (N : Int) - k ∧ c2 = c + (N - k) ∧ upd G2 (lk k) (some (.inr ((N : Int) - k))) = fillG G k N ∧ Var bc (.int .i64 (x + ((N : Int) - k))) w2) ?_).mono ?_
  · intro b mo1 w1 s1 m1
    refine call_mk 26 _ _ _ enters26 (answers_mono (HM.out b mo1 w1 w.heap.size hbk s1 (EW.out.moves SW.out m1.any) (VcW.out.moves SW.out m1 (plain_int _) (fun h => h)) (VkW.out.moves SW.out m1 (plain_int _) (fun h => h))) ?_)
    rintro v w2 ⟨rfl, mo2, G2, s2, hg2, hu, m2, V2⟩
    exact ⟨mo2, _, G2, s2, hg2, m2, rfl, rfl, hu, V2⟩
  · rintro e w' ⟨b, mo1, w1, v, mo2, c2, G2, w2, rfl, s1, m1, m2, ⟨rfl, rfl, hu, V2⟩, s2, s3, m3⟩
    have HF : Hid (∃ mo', St B t mo' (c + (N - k)) (fillG G k N) w' ∧ Moves (fun i => i = bc) B t mo w mo' w' ∧ Var bc (.int .i64 (x + ((N : Int) - k))) w') := by
      refine ⟨mo2, by rw [← hu]; exact s3, ?_, V2.moves s2 m3 (plain_int _) (fun h => h)⟩
      have m0 : Moves (fun i => i = bc) B t mo w mo W := ⟨TW.out.mono (fun _ _ h => h.elim), Or.inl rfl⟩
      exact ((m0.trans m1.any).trans m2).trans m3.any
    clear s1 m1 m2 hu V2 s2 s3 m3
    go_wp2_with fail
    go_ret
    exact ⟨_, rfl, rfl, HF.out⟩

/-- Asking for the k-th key, none from k on being made. -/
theorem ask_new (B t bt bc bn bg N : Nat) (hN : N ≤ 25) : ∀ (d k : Nat), k + d + 1 = N → ∀ (mo : Option Nat) (c : Nat) (G : Slots) (x : Int) (w : World), c + d < 500 → 0 ≤ x → x + d < 500 → St B t mo c G w → Env t bt bc bn bg N w → Var bc (.int .i64 x) w →
    (∀ j, k ≤ j → j < N → G (lk j) = none) →
    Calls Try.prog 25 #[.int .i64 k, .pointer (some ⟨bt, 0, none⟩), .pointer (some ⟨bc, 0, none⟩), .pointer (some ⟨bn, 0, none⟩), .pointer (some ⟨bg, 0, none⟩)] w (Answers (Asked B t bc mo c G x k N w)) := by
  intro d
  induction d with
  | zero =>
    intro k hk mo c G x w hc hx0 hx1 S E Vc hg
    refine ask_step B t bt bc bn bg N k hN (by omega) mo c (by omega) G x w S E Vc (hg k (Nat.le_refl _) (by omega)) ?_
    intro b mo1 w1 bk hne s1 E1 V1 Vk
    refine answers_mono (make_last t bt bc bn bg N bk k hN (by omega) x ⟨hx0, by omega⟩ w1 E1 V1 Vk hne) ?_
    rintro v w2 ⟨rfl, rfl⟩
    have e1 : (1 : Int) = (N : Int) - k := by omega
    have e2 : c + 1 = c + (N - k) := by omega
    refine ⟨e1, mo1, upd G (lk k) (some (.inl b)), ?_, upd_same _ _ _, ?_, moves_set (X := fun i => i = bc) rfl _, ?_⟩
    · rw [← e2]; exact s1.set V1 (plain_int _) _
    · rw [upd_upd, ← e1]; exact fillG_last G hN (by omega)
    · rw [← e1]; exact V1.set _
  | succ d ih =>
    intro k hk mo c G x w hc hx0 hx1 S E Vc hg
    refine ask_step B t bt bc bn bg N k hN (by omega) mo c (by omega) G x w S E Vc (hg k (Nat.le_refl _) (by omega)) ?_
    intro b mo1 w1 bk hne s1 E1 V1 Vk
    refine answers_mono (make_more B t bt bc bn bg N bk k hN (by omega) mo1 (c + 1) _ x ⟨hx0, by omega⟩ w1 s1 E1 V1 Vk hne (fun w2 s2 E2 V2 => ?_)) ?_
    · have := ih (k + 1) (by omega) mo1 (c + 1) (upd G (lk k) (some (.inl b))) (x + 1) w2 (by omega) (by omega) (by omega) s2 E2 V2 (fun j h1 h2 => by
        rw [upd_other _ _ (fun e => by have := lk_inj (by omega) (by omega) e; omega)]; exact hg j (by omega) h2)
      simpa using this
    · rintro v w2 ⟨rfl, mo2, s2, m2, V2⟩
      refine ⟨rfl, mo2, fillG (upd G (lk k) (some (.inl b))) (k + 1) N, ?_, ?_, fillG_step G hN (by omega), m2, V2⟩
      · have e : c + 1 + (N - (k + 1)) = c + (N - k) := by omega
        rw [← e]; exact s2
      · rw [fillG_out _ (fun j h1 h2 e => by have := lk_inj (by omega) (by omega) e; omega), upd_same]

/-- Asking for the k-th key where it is made. -/
theorem ask_made (B t bt bc bn bg N k : Nat) (hk : k < 100) (mo : Option Nat) (c : Nat) (G : Slots) (v : Int) (w : World) (S : St B t mo c G w) (E : Env t bt bc bn bg N w) (hg : G (lk k) = some (.inr v)) :
    Calls Try.prog 25 #[.int .i64 k, .pointer (some ⟨bt, 0, none⟩), .pointer (some ⟨bc, 0, none⟩), .pointer (some ⟨bn, 0, none⟩), .pointer (some ⟨bg, 0, none⟩)] w
      fun e w' => e = .returned (.int .i64 v) ∧ St B t mo c G w' ∧ Moves Nought B t mo w mo w' := by
  obtain ⟨W, hW⟩ : ∃ W, W = (w.alloc (.cells #[.int .i64 k] 3)).alloc (.cells #[.int .u8 (97 + k)] 5) := ⟨_, rfl⟩
  have tW : Touch (fun _ => False) w W := by rw [hW]; exact ((Touch.refl _ _).alloc _).alloc _
  have SW := Lib.hid (S.alloc tW)
  have hcv : (convert 36 9 (.slice (some ⟨w.heap.size + 1, 0, none⟩) 1 1)).run Try.prog W = .ok (.string (letter k)) W := by
    refine conv_letter W k (by omega) _ ?_
    rw [hW]
    simp
  have hct : (w.alloc (.cells #[.int .i64 k] 3)).cell? ⟨bt, 0, none⟩ = some (.pointer (some ⟨t, 0, none⟩)) := by
    rw [World.cell?_alloc_past _ _ _ (lt_of_cell? E.vt.c)]; exact E.vt.c
  have TW := Lib.hid tW
  have hm := make_func
  rw [hW] at hcv
  have HW := Lib.hid hW
  clear S E tW hW
  go_enter Try.func25, Try.ntmps25
  go_wp2_with fail
  rw [← HW.out]
  refine (get_st_hit B t mo c G (letter k) (letter_size k) _ _ SW.out v hg).mono ?_
  rintro e w' ⟨rfl, s1, m1⟩
  have HF : Hid (St B t mo c G w' ∧ Moves Nought B t mo w mo w') := ⟨s1, Moves.trans ⟨TW.out.mono (fun _ _ h => h.elim), Or.inl rfl⟩ m1⟩
  clear s1 m1
  go_wp2_with fail
  go_ret
  exact ⟨rfl, HF.out⟩
end Go.Proofs.Ytnhepceannajeaa
