/- The walk of lariatlaw2.CountTurns. -/
import Derived.Test.YtmgobnbpmjcicaaOpen
namespace Go.Proofs.Ytmgobnbpmjcicaa
open Go.RowKit Go.MuLone

theorem cell_old2 {w w' : World} (h : Old w w') {b o : Nat} (hb : b < w.heap.size) : w'.cell? ⟨b, o, none⟩ = w.cell? ⟨b, o, none⟩ := h.cell (p := ⟨b, o, none⟩) hb (fun h => h)

set_option maxRecDepth 100000 in
set_option maxHeartbeats 4000000 in
theorem turns_law (z : Int) (a : Option Addr) (len cap : Nat) (w : World) (q r : Nat → Int) (hr : TurnRow w a len q r) :
    Calls Try.prog 4 #[.int .i64 z, .slice a len cap] w fun e w' => e = .returned (.bool true) ∧ Below w.heap.size w w' := by
  have hn := hnot
  have HR := Lib.hid hr
  clear hr
  go_enter Try.func4, Try.ntmps4
  go_wp2_with fail
  refine (known_any _).mono ?_
  rintro e w1 ⟨rfl, T1⟩
  have HT1 := Lib.hid T1
  clear T1
  go_wp2_with fail
  refine (raw_any _ _).mono ?_
  rintro e w' ⟨m, hm, rfl, rfl⟩
  clear hm
  go_wp2_with fail
  refine (new_budget _ _).mono ?_
  rintro e w2 ⟨rfl, K2, T2⟩
  simp only [World.size_alloc] at K2 ⊢
  have S2 := Lib.hid (objs_begin w w1 w2 m HT1.out K2 T2)
  clear K2 T2 HT1
  generalize w1.heap.size = c at *
  go_wp2_with fail
  refine (known_any _).mono ?_
  rintro e w3 ⟨rfl, T3⟩
  have S3 := Lib.hid (S2.out.same T3)
  clear T3 S2
  have hall : max 0 (min m 4611686018427387904) = begins m := by unfold begins most; omega
  go_wp2_with fail
  clear hall
  generalize begins m = all at *
  go_loopw [11, 12, 13, 14, 15] (fun s p l u i wx => ∃ (i' : Nat) (s' p' l' : Int) (u' : Bool), i' ≤ 60 ∧ s = .int .i64 s' ∧ p = .int .i64 p' ∧ l = .int .i64 l' ∧ u = .bool u' ∧ i = .int .i64 i' ∧ Hid (Objs c (c + 1) (c + 2) (c + 3) s' p' l' all u' w wx)) (fun _ _ _ _ i _ => 60 - (intOf i).toNat)
  case atStart => exact ⟨0, 0, 0, all, false, by omega, rfl, rfl, rfl, rfl, rfl, S3⟩
  case round =>
    obtain ⟨i, sum, peak, left, up', hi, rfl, rfl, rfl, rfl, rfl, S⟩ := hrel
    clear S3
    by_cases hlt : i < len ∧ i < 60
    · obtain ⟨h1, h2⟩ := hlt
      obtain ⟨bl, off, rfl, hb, hc, hd⟩ := HR.out i h1
      have hx := (cell_old2 S.out.old (o := off + i * 2) hb).trans hc
      have hy := (cell_old2 S.out.old (o := off + i * 2 + 1) hb).trans hd
      have hil : (i : Int) < (len : Int) := by omega
      have hil' : (0 : Int) ≤ (i : Int) := by omega
      clear hc hd hb
      have hs0 := S.out.s0
      have hs1 : sum ≤ 4611686018427387904 := S.out.s1
      have hl0 := S.out.l0
      have hl1 := S.out.l1
      have hl2 : all ≤ 4611686018427387904 := S.out.l2
      go_wp2_with fail
      refine (raw_any _ _).mono ?_
      rintro e w' ⟨n, hnf, rfl, rfl⟩
      unfold Fits at hnf
      obtain ⟨hn1, hn2⟩ := hnf
      go_wp2_with fail
      refine (pick_any _ _ (by omega) (by omega) _).mono ?_
      rintro e w' ⟨k, hk, rfl, rfl⟩
      clear hx hy
      have hk5 : k = 0 ∨ k = 1 ∨ k = 2 ∨ k = 3 ∨ k = 4 := by omega
      clear hk
      rcases hk5 with rfl | rfl | rfl | rfl | rfl
      · by_cases hgt : 4611686018427387904 - sum < n
        · have hup : up sum n most = 4611686018427387904 := by unfold up most; omega
          go_wp2_with fail
          refine (S.out.add n).mono ?_
          rintro e w4 ⟨he, S4', _⟩
          rw [hup] at he S4'
          subst he
          have S5 := Lib.hid S4'
          clear S4' S hup hgt
          go_wp2_with fail
          refine (counter_load _ _ _ _ S5.out.kc).mono ?_
          rintro e w' ⟨rfl, rfl⟩
          go_wp2_with fail
          refine (peak_load _ _ _ _ S5.out.kp).mono ?_
          rintro e w' ⟨rfl, rfl⟩
          go_wp2_with fail
          refine (budget_left _ _ _ _ S5.out.kb).mono ?_
          rintro e w' ⟨rfl, rfl⟩
          go_wp2_with fail
          refine (flag_raised _ _ _ S5.out.kf).mono ?_
          rintro e w' ⟨rfl, rfl⟩
          go_wp2_with fail
          go_roundw
          case rel => exact ⟨i + 1, _, _, _, _, by omega, rfl, rfl, rfl, rfl, by go_num, S5⟩
          case measure => simp [intOf]; omega
        · have hup : up sum n most = sum + max 0 n := by unfold up most; omega
          have hb5 : sum + max 0 n ≤ 4611686018427387904 := by omega
          go_wp2_with fail
          refine (S.out.add n).mono ?_
          rintro e w4 ⟨he, S4', _⟩
          rw [hup] at he S4'
          subst he
          have S5 := Lib.hid S4'
          clear S4' S hup hgt
          go_wp2_with fail
          refine (counter_load _ _ _ _ S5.out.kc).mono ?_
          rintro e w' ⟨rfl, rfl⟩
          go_wp2_with fail
          refine (peak_load _ _ _ _ S5.out.kp).mono ?_
          rintro e w' ⟨rfl, rfl⟩
          go_wp2_with fail
          refine (budget_left _ _ _ _ S5.out.kb).mono ?_
          rintro e w' ⟨rfl, rfl⟩
          go_wp2_with fail
          refine (flag_raised _ _ _ S5.out.kf).mono ?_
          rintro e w' ⟨rfl, rfl⟩
          go_wp2_with fail
          go_roundw
          case rel => exact ⟨i + 1, _, _, _, _, by omega, rfl, rfl, rfl, rfl, by go_num, S5⟩
          case measure => simp [intOf]; omega
      · by_cases hgt : peak < n
        · have hup : above peak n = true := decide_eq_true hgt
          go_wp2_with fail
          refine (S.out.note n).mono ?_
          rintro e w4 ⟨he, S4', _⟩
          rw [hup] at he
          subst he
          have S5 := Lib.hid S4'
          clear S4' S hup
          go_wp2_with fail
          refine (counter_load _ _ _ _ S5.out.kc).mono ?_
          rintro e w' ⟨rfl, rfl⟩
          go_wp2_with fail
          refine (peak_load _ _ _ _ S5.out.kp).mono ?_
          rintro e w' ⟨rfl, rfl⟩
          go_wp2_with fail
          refine (budget_left _ _ _ _ S5.out.kb).mono ?_
          rintro e w' ⟨rfl, rfl⟩
          go_wp2_with fail
          refine (flag_raised _ _ _ S5.out.kf).mono ?_
          rintro e w' ⟨rfl, rfl⟩
          go_wp2_with fail
          go_roundw
          case rel => exact ⟨i + 1, _, _, _, _, by omega, rfl, rfl, rfl, rfl, by go_num, S5⟩
          case measure => simp [intOf]; omega
        · have hup : above peak n = false := decide_eq_false hgt
          go_wp2_with fail
          refine (S.out.note n).mono ?_
          rintro e w4 ⟨he, S4', _⟩
          rw [hup] at he
          subst he
          have S5 := Lib.hid S4'
          clear S4' S hup
          go_wp2_with fail
          refine (counter_load _ _ _ _ S5.out.kc).mono ?_
          rintro e w' ⟨rfl, rfl⟩
          go_wp2_with fail
          refine (peak_load _ _ _ _ S5.out.kp).mono ?_
          rintro e w' ⟨rfl, rfl⟩
          go_wp2_with fail
          refine (budget_left _ _ _ _ S5.out.kb).mono ?_
          rintro e w' ⟨rfl, rfl⟩
          go_wp2_with fail
          refine (flag_raised _ _ _ S5.out.kf).mono ?_
          rintro e w' ⟨rfl, rfl⟩
          go_wp2_with fail
          go_roundw
          case rel => exact ⟨i + 1, _, _, _, _, by omega, rfl, rfl, rfl, rfl, by go_num, S5⟩
          case measure => simp [intOf]; omega
      · by_cases hneg : 0 ≤ n
        · by_cases hle : n ≤ left
          · have hcan : can left n = true := decide_eq_true ⟨hneg, hle⟩
            have htk : taken left n = left - n := if_pos ⟨hneg, hle⟩
            go_wp2_with fail
            refine (S.out.take n).mono ?_
            rintro e w4 ⟨he, S4', _⟩
            rw [hcan] at he
            rw [htk] at S4'
            subst he
            have S5 := Lib.hid S4'
            clear S4' S hcan htk
            go_wp2_with fail
            refine (counter_load _ _ _ _ S5.out.kc).mono ?_
            rintro e w' ⟨rfl, rfl⟩
            go_wp2_with fail
            refine (peak_load _ _ _ _ S5.out.kp).mono ?_
            rintro e w' ⟨rfl, rfl⟩
            go_wp2_with fail
            refine (budget_left _ _ _ _ S5.out.kb).mono ?_
            rintro e w' ⟨rfl, rfl⟩
            go_wp2_with fail
            refine (flag_raised _ _ _ S5.out.kf).mono ?_
            rintro e w' ⟨rfl, rfl⟩
            go_wp2_with fail
            go_roundw
            case rel => exact ⟨i + 1, _, _, _, _, by omega, rfl, rfl, rfl, rfl, by go_num, S5⟩
            case measure => simp [intOf]; omega
          · have hcan : can left n = false := decide_eq_false (fun h => hle h.2)
            have htk : taken left n = left := if_neg (fun h => hle h.2)
            go_wp2_with fail
            refine (S.out.take n).mono ?_
            rintro e w4 ⟨he, S4', _⟩
            rw [hcan] at he
            rw [htk] at S4'
            subst he
            have S5 := Lib.hid S4'
            clear S4' S hcan htk
            go_wp2_with fail
            refine (counter_load _ _ _ _ S5.out.kc).mono ?_
            rintro e w' ⟨rfl, rfl⟩
            go_wp2_with fail
            refine (peak_load _ _ _ _ S5.out.kp).mono ?_
            rintro e w' ⟨rfl, rfl⟩
            go_wp2_with fail
            refine (budget_left _ _ _ _ S5.out.kb).mono ?_
            rintro e w' ⟨rfl, rfl⟩
            go_wp2_with fail
            refine (flag_raised _ _ _ S5.out.kf).mono ?_
            rintro e w' ⟨rfl, rfl⟩
            go_wp2_with fail
            go_roundw
            case rel => exact ⟨i + 1, _, _, _, _, by omega, rfl, rfl, rfl, rfl, by go_num, S5⟩
            case measure => simp [intOf]; omega
        · have hle : ¬ (0 ≤ n ∧ n ≤ left) := fun h => hneg h.1
          have hcan : can left n = false := decide_eq_false hle
          have htk : taken left n = left := if_neg hle
          clear hle
          go_wp2_with fail
          refine (S.out.take n).mono ?_
          rintro e w4 ⟨he, S4', _⟩
          rw [hcan] at he
          rw [htk] at S4'
          subst he
          have S5 := Lib.hid S4'
          clear S4' S hcan htk
          go_wp2_with fail
          refine (counter_load _ _ _ _ S5.out.kc).mono ?_
          rintro e w' ⟨rfl, rfl⟩
          go_wp2_with fail
          refine (peak_load _ _ _ _ S5.out.kp).mono ?_
          rintro e w' ⟨rfl, rfl⟩
          go_wp2_with fail
          refine (budget_left _ _ _ _ S5.out.kb).mono ?_
          rintro e w' ⟨rfl, rfl⟩
          go_wp2_with fail
          refine (flag_raised _ _ _ S5.out.kf).mono ?_
          rintro e w' ⟨rfl, rfl⟩
          go_wp2_with fail
          go_roundw
          case rel => exact ⟨i + 1, _, _, _, _, by omega, rfl, rfl, rfl, rfl, by go_num, S5⟩
          case measure => simp [intOf]; omega
      · by_cases hgt : all - left < n
        · have hup : up left n all = all := by unfold up; omega
          go_wp2_with fail
          refine (S.out.give n).mono ?_
          rintro e w4 ⟨rfl, S4', _⟩
          rw [hup] at S4'
          have S5 := Lib.hid S4'
          clear S4' S hup
          go_wp2_with fail
          refine (counter_load _ _ _ _ S5.out.kc).mono ?_
          rintro e w' ⟨rfl, rfl⟩
          go_wp2_with fail
          refine (peak_load _ _ _ _ S5.out.kp).mono ?_
          rintro e w' ⟨rfl, rfl⟩
          go_wp2_with fail
          refine (budget_left _ _ _ _ S5.out.kb).mono ?_
          rintro e w' ⟨rfl, rfl⟩
          go_wp2_with fail
          refine (flag_raised _ _ _ S5.out.kf).mono ?_
          rintro e w' ⟨rfl, rfl⟩
          go_wp2_with fail
          go_roundw
          case rel => exact ⟨i + 1, _, _, _, _, by omega, rfl, rfl, rfl, rfl, by go_num, S5⟩
          case measure => simp [intOf]; omega
        · have hup : up left n all = left + max 0 n := by unfold up; omega
          have hb5 : left + max 0 n ≤ all := by omega
          go_wp2_with fail
          refine (S.out.give n).mono ?_
          rintro e w4 ⟨rfl, S4', _⟩
          rw [hup] at S4'
          have S5 := Lib.hid S4'
          clear S4' S hup
          go_wp2_with fail
          refine (counter_load _ _ _ _ S5.out.kc).mono ?_
          rintro e w' ⟨rfl, rfl⟩
          go_wp2_with fail
          refine (peak_load _ _ _ _ S5.out.kp).mono ?_
          rintro e w' ⟨rfl, rfl⟩
          go_wp2_with fail
          refine (budget_left _ _ _ _ S5.out.kb).mono ?_
          rintro e w' ⟨rfl, rfl⟩
          go_wp2_with fail
          refine (flag_raised _ _ _ S5.out.kf).mono ?_
          rintro e w' ⟨rfl, rfl⟩
          go_wp2_with fail
          go_roundw
          case rel => exact ⟨i + 1, _, _, _, _, by omega, rfl, rfl, rfl, rfl, by go_num, S5⟩
          case measure => simp [intOf]; omega
      · cases up'
        · go_wp2_with fail
          refine (S.out.raise).mono ?_
          rintro e w4 ⟨rfl, S4', _⟩
          have S5 := Lib.hid S4'
          clear S4' S
          go_wp2_with fail
          refine (counter_load _ _ _ _ S5.out.kc).mono ?_
          rintro e w' ⟨rfl, rfl⟩
          go_wp2_with fail
          refine (peak_load _ _ _ _ S5.out.kp).mono ?_
          rintro e w' ⟨rfl, rfl⟩
          go_wp2_with fail
          refine (budget_left _ _ _ _ S5.out.kb).mono ?_
          rintro e w' ⟨rfl, rfl⟩
          go_wp2_with fail
          refine (flag_raised _ _ _ S5.out.kf).mono ?_
          rintro e w' ⟨rfl, rfl⟩
          go_wp2_with fail
          go_roundw
          case rel => exact ⟨i + 1, _, _, _, _, by omega, rfl, rfl, rfl, rfl, by go_num, S5⟩
          case measure => simp [intOf]; omega
        · go_wp2_with fail
          refine (S.out.raise).mono ?_
          rintro e w4 ⟨rfl, S4', _⟩
          have S5 := Lib.hid S4'
          clear S4' S
          go_wp2_with fail
          refine (counter_load _ _ _ _ S5.out.kc).mono ?_
          rintro e w' ⟨rfl, rfl⟩
          go_wp2_with fail
          refine (peak_load _ _ _ _ S5.out.kp).mono ?_
          rintro e w' ⟨rfl, rfl⟩
          go_wp2_with fail
          refine (budget_left _ _ _ _ S5.out.kb).mono ?_
          rintro e w' ⟨rfl, rfl⟩
          go_wp2_with fail
          refine (flag_raised _ _ _ S5.out.kf).mono ?_
          rintro e w' ⟨rfl, rfl⟩
          go_wp2_with fail
          go_roundw
          case rel => exact ⟨i + 1, _, _, _, _, by omega, rfl, rfl, rfl, rfl, by go_num, S5⟩
          case measure => simp [intOf]; omega
    · have hout : (i < len ∧ 60 ≤ i) ∨ len ≤ i := by omega
      clear hlt
      rcases hout with ⟨h1, h2⟩ | h1
      all_goals
        go_wp2_with fail
        go_ret
        exact ⟨rfl, S.out.old.below (Nat.le_refl _) (fun _ _ h => h)⟩
end Go.Proofs.Ytmgobnbpmjcicaa
