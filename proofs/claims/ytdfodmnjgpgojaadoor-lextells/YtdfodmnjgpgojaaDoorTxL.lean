/- The contract of the laws' text. -/
import Derived.Test.YtdfodmnjgpgojaaDoorTrn
namespace Go.Proofs.YtdfodmnjgpgojaaDoor
open Go.RowKit Go.PlainAid
set_option maxRecDepth 100000

set_option maxHeartbeats 6400000 in
theorem text_any (a : Option Addr) (n c : Nat) (b : Option Addr) (nb cb : Nat) (raw : ByteArray) (how : Int) (w : World) (h : Grd w a n) (hb : ∃ ys : List Int, ys.length = nb ∧ HasI w b ys) (hnb : nb ≤ maxLen) (hr : raw.size ≤ maxLen) :
    Calls Tryd.prog 10 #[.slice a n c, .slice b nb cb, .string raw, .int .i64 how] w (Made w maxLen) := by
  have hmx : maxLen = 9223372036854775807 := by decide
  have HR := Lib.hid hr
  have HP : Hid (∀ w, Calls Tryd.prog 13 #[.int .i64 how, .int .i64 4] w fun e w' => e = .returned (.int .i64 (pickN how 4 : Int)) ∧ w' = w) := fun w => (pick_at _ _ (by omega) (by omega) w).mono fun _ _ ⟨x, y⟩ => ⟨x, y.symm⟩
  have hp : (pickN how 4 : Int) < 4 := pickN_lt (by omega)
  generalize pickN how 4 = p at *
  have H1 := Lib.hid (formula_made a n c w h)
  have H2 := Lib.hid (expr_made a n c w h)
  have H3 := Lib.hid (trans_made a n c 2 w h (by decide) (by decide))
  have HB : Hid (∀ (s : ByteArray) (w1 : World), s.size ≤ 1000000 → Old w w1 → Calls Tryd.prog 17 #[.string s, .slice b nb cb] w1 fun e w' => ∃ t : ByteArray, e = .returned (.string t) ∧ t.size ≤ s.size + 4 ∧ Old w1 w') := fun s w1 h1 h2 => by
    obtain ⟨ys, y1, y2⟩ := hb
    exact bent_any s b nb cb w1 h1 ⟨ys, y1, y2.old h2⟩ hnb
  clear h hb hr
  by_cases q0 : p = 0
  · subst q0
    go_enter Tryd.func10, Tryd.ntmps10
    go_wp2_with (with_reducible refine (HP.out _).mono ?_; rintro e w' ⟨rfl, rfl⟩)
    go_ret
    exact ⟨raw, rfl, HR.out, Touch.refl _ _⟩
  · have z0 : ¬ (p : Int) = 0 := by omega
    by_cases q1 : p = 1
    · subst q1
      go_enter Tryd.func10, Tryd.ntmps10
      go_wp2_with (first
        | (go_at_call 13; with_reducible refine (HP.out _).mono ?_; rintro e w' ⟨rfl, rfl⟩)
        | (go_at_call 18; refine H1.out.mono ?_; rintro e w1 ⟨s, rfl, hs, O1⟩
           have HO1 := Lib.hid O1
           clear O1)
        | (go_at_call 17; refine (HB.out s _ (by omega) HO1.out).mono ?_; rintro e w2 ⟨t, rfl, ht, O2⟩
           have HO2 := Lib.hid O2
           clear O2))
      go_ret
      exact ⟨t, rfl, by omega, HO1.out.trans HO2.out⟩
    · have z1 : ¬ (p : Int) = 1 := by omega
      by_cases q2 : p = 2
      · subst q2
        go_enter Tryd.func10, Tryd.ntmps10
        go_wp2_with (first
          | (go_at_call 13; with_reducible refine (HP.out _).mono ?_; rintro e w' ⟨rfl, rfl⟩)
          | (go_at_call 19; refine H2.out.mono ?_; rintro e w1 ⟨s, rfl, hs, O1⟩
             have HO1 := Lib.hid O1
             clear O1)
          | (go_at_call 17; refine (HB.out s _ (by omega) HO1.out).mono ?_; rintro e w2 ⟨t, rfl, ht, O2⟩
             have HO2 := Lib.hid O2
             clear O2))
        go_ret
        exact ⟨t, rfl, by omega, HO1.out.trans HO2.out⟩
      · have z2 : ¬ (p : Int) = 2 := by omega
        go_enter Tryd.func10, Tryd.ntmps10
        go_wp2_with (first
          | (go_at_call 13; with_reducible refine (HP.out _).mono ?_; rintro e w' ⟨rfl, rfl⟩)
          | (go_at_call 20; refine H3.out.mono ?_; rintro e w1 ⟨s, rfl, hs, O1⟩
             have HO1 := Lib.hid O1
             clear O1)
          | (go_at_call 17; refine (HB.out s _ (by omega) HO1.out).mono ?_; rintro e w2 ⟨t, rfl, ht, O2⟩
             have HO2 := Lib.hid O2
             clear O2))
        go_ret
        exact ⟨t, rfl, by omega, HO1.out.trans HO2.out⟩
end Go.Proofs.YtdfodmnjgpgojaaDoor
