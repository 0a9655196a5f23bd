/- The walk of lariatlaw2.CountBudgets. -/
import Derived.Test.YtmgobnbpmjcicaaOpen
namespace Go.Proofs.Ytmgobnbpmjcicaa
open Go.RowKit Go.MuLone

/-- A budget of M at b, of which x is left. -/
structure Bud (b : Nat) (x M : Int) (w0 w : World) : Prop where
  kb : Num b x (some (.int .i64 M)) w
  lo : w0.heap.size ≤ b
  old : Old w0 w

theorem Bud.same {b : Nat} {x M : Int} {w0 w w' : World} (S : Bud b x M w0 w) (T : Old w w') : Bud b x M w0 w' :=
  ⟨S.kb.touch T (fun h => h), S.lo, S.old.trans T⟩
theorem Bud.take {b : Nat} {x M : Int} {w0 w : World} (S : Bud b x M w0 w) (n : Int) (h0 : 0 ≤ x) (h1 : x ≤ most) :
    Calls Try.prog 12 #[.pointer (some ⟨b, 0, none⟩), .int .i64 n] w fun e w' => e = .returned (.bool (can x n)) ∧ Bud b (taken x n) M w0 w' := by
  refine (take_any b x n _ h0 h1 w S.kb).mono ?_
  rintro e w' ⟨rfl, K, T⟩
  exact ⟨rfl, K, S.lo, S.old.own T S.lo⟩
theorem Bud.give {b : Nat} {x M : Int} {w0 w : World} (S : Bud b x M w0 w) (n : Int) (h0 : 0 ≤ x) (h1 : x ≤ M) (h2 : M ≤ most) :
    Calls Try.prog 13 #[.pointer (some ⟨b, 0, none⟩), .int .i64 n] w fun e w' => e = .returned (.tuple #[]) ∧ Bud b (up x n M) M w0 w' := by
  refine (give_any b x n M h0 h1 h2 w S.kb).mono ?_
  rintro e w' ⟨rfl, K, T⟩
  exact ⟨rfl, K, S.lo, S.old.own T S.lo⟩

theorem cell_old' {w w' : World} (h : Old w w') {b o : Nat} (hb : b < w.heap.size) : w'.cell? ⟨b, o, none⟩ = w.cell? ⟨b, o, none⟩ := h.cell (p := ⟨b, o, none⟩) hb (fun h => h)

set_option maxRecDepth 100000 in
set_option maxHeartbeats 1600000 in
theorem budgets_law (z : Int) (a : Option Addr) (len cap : Nat) (w : World) (q : Nat → Int) (hr : IntRow w a len q) :
    Calls Try.prog 5 #[.int .i64 z, .slice a len cap] w fun e w' => e = .returned (.bool true) ∧ Below w.heap.size w w' := by
  have hn := hnot
  have HR := Lib.hid hr
  clear hr
  go_enter Try.func5, Try.ntmps5
  go_wp2_with fail
  refine (known_any _).mono ?_
  rintro e w1 ⟨rfl, T1⟩
  have HT1 := Lib.hid T1
  clear T1
  go_wp2_with fail
  refine (pick_any _ _ (by omega) (by omega) _).mono ?_
  rintro e w' ⟨M, hM, rfl, rfl⟩
  go_wp2_with fail
  refine (new_budget _ _).mono ?_
  rintro e w2 ⟨rfl, K2, T2⟩
  have hbeg : begins (M : Int) = (M : Int) := by unfold begins most; omega
  rw [hbeg] at K2
  have S2 : Hid (Bud w1.heap.size M M w w2) := ⟨K2, HT1.out.size, HT1.out.trans T2⟩
  clear K2 T2 HT1 hbeg
  generalize w1.heap.size = b at *
  go_wp2_with fail
  refine (known_any _).mono ?_
  rintro e w3 ⟨rfl, T3⟩
  have S3 := Lib.hid (S2.out.same T3)
  clear T3 S2
  have hM5 : (M : Int) < 500 := hM
  clear hM
  go_wp2_with fail
  go_loopw [6, 7] (fun o i wx => ∃ i' o' : Nat, i' ≤ 60 ∧ o' ≤ M ∧ i = .int .i64 i' ∧ o = .int .i64 o' ∧ Hid (Bud b ((M : Int) - o') M w wx)) (fun _ i _ => 60 - (intOf i).toNat)
  case atStart => exact ⟨0, 0, by omega, by omega, rfl, rfl, by simpa using S3⟩
  case round =>
    obtain ⟨i, o, hi, ho, rfl, rfl, S⟩ := hrel
    clear S3
    by_cases hlt : i < len ∧ i < 60
    · obtain ⟨h1, h2⟩ := hlt
      obtain ⟨bl, off, rfl, hb, hc, hf⟩ := HR.out i h1
      have hx := (cell_old' S.out.old (o := off + i) hb).trans hc
      clear hc hf hb
      go_wp2_with fail
      refine (pick_any _ _ (by omega) (by omega) _).mono ?_
      rintro e w' ⟨k, hk, rfl, rfl⟩
      have hk' : (k : Int) < 120 := hk
      clear hk
      by_cases hpar : (q i).tmod 2 = 0
      · go_wp2_with fail
        clear hx hpar
        refine (budget_left _ _ _ _ S.out.kb).mono ?_
        rintro e w' ⟨rfl, rfl⟩
        go_wp2_with fail
        refine (S.out.take _ (by omega) (by unfold most; omega)).mono ?_
        rintro e w4 ⟨he, S4'⟩
        by_cases hle : (k : Int) ≤ (M : Int) - o
        · rw [show can ((M : Int) - o) k = true from decide_eq_true ⟨by omega, hle⟩] at he
          rw [show taken ((M : Int) - o) k = (M : Int) - ((o : Int) + k) from (if_pos ⟨by omega, hle⟩).trans (by omega)] at S4'
          subst he
          obtain ⟨o', HO⟩ : ∃ o' : Nat, (o : Int) + k = (o' : Int) := ⟨o + k, by omega⟩
          have ho2 : o' ≤ M := by omega
          rw [HO] at S4'
          have S5 := Lib.hid S4'
          clear S4' S
          go_wp2_with fail
          clear HO
          refine (budget_left _ _ _ _ S5.out.kb).mono ?_
          rintro e w' ⟨rfl, rfl⟩
          go_wp2_with fail
          refine (budget_left _ _ _ _ S5.out.kb).mono ?_
          rintro e w' ⟨rfl, rfl⟩
          go_wp2_with fail
          go_roundw
          case rel => exact ⟨i + 1, o', by omega, ho2, by go_num, rfl, S5⟩
          case measure => simp [intOf]; omega
        · rw [show can ((M : Int) - o) k = false from decide_eq_false (fun h => hle h.2)] at he
          rw [show taken ((M : Int) - o) k = (M : Int) - o from if_neg (fun h => hle h.2)] at S4'
          subst he
          obtain ⟨o', HO⟩ : ∃ o' : Nat, o' = o := ⟨o, rfl⟩
          have ho2 : o' ≤ M := by omega
          rw [← HO] at S4'
          have S5 := Lib.hid S4'
          subst HO
          clear S4' S
          go_wp2_with fail
          refine (budget_left _ _ _ _ S5.out.kb).mono ?_
          rintro e w' ⟨rfl, rfl⟩
          go_wp2_with fail
          refine (budget_left _ _ _ _ S5.out.kb).mono ?_
          rintro e w' ⟨rfl, rfl⟩
          go_wp2_with fail
          go_roundw
          case rel => exact ⟨i + 1, o', by omega, ho2, by go_num, rfl, S5⟩
          case measure => simp [intOf]; omega
      · obtain ⟨n, hn1⟩ : ∃ n : Nat, min (k : Int) (o : Int) = (n : Int) := ⟨min k o, by omega⟩
        have hn2 : n ≤ o := by omega
        go_wp2_with fail
        clear hx hpar hn1
        refine (S.out.give _ (by omega) (by omega) (by unfold most; omega)).mono ?_
        rintro e w4 ⟨rfl, S4'⟩
        rw [show up ((M : Int) - o) n M = (M : Int) - ((o : Int) - n) from by unfold up; omega] at S4'
        obtain ⟨o', HO⟩ : ∃ o' : Nat, (o : Int) - n = (o' : Int) := ⟨o - n, by omega⟩
        have ho2 : o' ≤ M := by omega
        rw [HO] at S4'
        have S5 := Lib.hid S4'
        clear S4' S
        go_wp2_with fail
        clear HO
        refine (budget_left _ _ _ _ S5.out.kb).mono ?_
        rintro e w' ⟨rfl, rfl⟩
        go_wp2_with fail
        refine (budget_left _ _ _ _ S5.out.kb).mono ?_
        rintro e w' ⟨rfl, rfl⟩
        go_wp2_with fail
        go_roundw
        case rel => exact ⟨i + 1, o', by omega, ho2, by go_num, rfl, S5⟩
        case measure => simp [intOf]; omega
    · have hout : (i < len ∧ 60 ≤ i) ∨ len ≤ i := by omega
      clear hlt
      rcases hout with ⟨h1, h2⟩ | h1
      all_goals
        go_wp2_with fail
        refine (S.out.give _ (by omega) (by omega) (by unfold most; omega)).mono ?_
        rintro e w4 ⟨rfl, S4'⟩
        rw [show up ((M : Int) - o) ((M : Int) + 7) M = (M : Int) from by unfold up; omega] at S4'
        have S5 := Lib.hid S4'
        clear S4' S
        go_wp2_with fail
        refine (budget_left _ _ _ _ S5.out.kb).mono ?_
        rintro e w' ⟨rfl, rfl⟩
        go_wp2_with fail
        go_ret
        exact ⟨rfl, S5.out.old.below (Nat.le_refl _) (fun _ _ h => h)⟩
end Go.Proofs.Ytmgobnbpmjcicaa
